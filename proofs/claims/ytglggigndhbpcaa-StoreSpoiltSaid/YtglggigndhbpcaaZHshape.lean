/- The shape of atoms, clauses and numbers in memory, whatever their values are, and whatever memory they share: what keeps it. No condition but those that stand in each statement. -/
import Derived.Test.YtglggigndhbpcaaZHmake
import Derived.Test.YtglggigndhbpcaaZHopen
namespace Go.Proofs.Ytglggigndhbpcaa
open Go.RowKit

def IntAt (w : World) (b o : Nat) : Prop := ∃ z : Int, w.cell? ⟨b, o, none⟩ = some (.int .i64 z)
theorem IntAt.lt {w : World} {b o : Nat} (h : IntAt w b o) : b < w.heap.size := by
  obtain ⟨z, h⟩ := h
  exact World.block_lt_of_cell? _ _ h
/-- The slice (a, cap) holds n atoms, in a block of which P holds. -/
def AtsS (w : World) (P : Nat → Prop) (n : Nat) (a : Option Addr) (cap : Nat) : Prop :=
  n ≤ cap ∧ cap ≤ maxLen ∧ (a = none → cap = 0) ∧ (0 < n → ∃ b o, a = some ⟨b, o, none⟩ ∧ P b ∧ ∀ i, i < n → IntAt w b (o + i * 2) ∧ IntAt w b (o + i * 2 + 1))
def IntsS (w : World) (n : Nat) (a : Option Addr) (cap : Nat) : Prop :=
  n ≤ cap ∧ cap ≤ maxLen ∧ (a = none → cap = 0) ∧ (0 < n → ∃ b o, a = some ⟨b, o, none⟩ ∧ ∀ i, i < n → IntAt w b (o + i))
def AnyB (_ : Nat) : Prop := True
def ClsS (w : World) (n : Nat) (a : Option Addr) (cap : Nat) : Prop :=
  n ≤ cap ∧ cap ≤ maxLen ∧ (a = none → cap = 0) ∧ (0 < n → ∃ b o, a = some ⟨b, o, none⟩ ∧
    ∀ i, i < n → (∃ a' n' c', w.cell? ⟨b, o + i * 3, none⟩ = some (.slice a' n' c') ∧ AtsS w AnyB n' a' c') ∧ IntAt w b (o + i * 3 + 1) ∧ IntAt w b (o + i * 3 + 2))
theorem AtsS.weak {w : World} {P Q : Nat → Prop} (h : ∀ b, P b → Q b) {n : Nat} {a : Option Addr} {cap : Nat} (hs : AtsS w P n a cap) : AtsS w Q n a cap := by
  obtain ⟨h1, h2, h3, h4⟩ := hs
  refine ⟨h1, h2, h3, fun hx => ?_⟩
  obtain ⟨b, o, e, hb, hf⟩ := h4 hx
  exact ⟨b, o, e, h b hb, hf⟩
theorem AtsS.any {w : World} {P : Nat → Prop} {n : Nat} {a : Option Addr} {cap : Nat} (hs : AtsS w P n a cap) : AtsS w AnyB n a cap := hs.weak (fun _ _ => trivial)
theorem AtsS.none (w : World) (P : Nat → Prop) : AtsS w P 0 .none 0 := ⟨Nat.le_refl _, Nat.zero_le _, fun _ => rfl, fun h => absurd h (by omega)⟩
theorem AtsS.of {w : World} {P : Nat → Prop} {l : List At} {a : Option Addr} {cap : Nat} (h : AtsIn w P l a cap) : AtsS w P l.length a cap := by
  obtain ⟨h1, h2, h3, h4⟩ := h
  refine ⟨h1, h2, h3, fun hx => ?_⟩
  obtain ⟨b, o, e, hb, hf⟩ := h4 hx
  exact ⟨b, o, e, hb, fun i hi => ⟨⟨_, (hf i hi).1⟩, ⟨_, (hf i hi).2⟩⟩⟩
theorem AtsS.ats {w : World} {P : Nat → Prop} {n : Nat} {a : Option Addr} {cap : Nat} (h : AtsS w P n a cap) : ∃ l : List At, l.length = n ∧ AtsIn w (· < w.heap.size) l a cap := by
  obtain ⟨h1, h2, h3, h4⟩ := h
  rcases Nat.eq_zero_or_pos n with h0 | h0
  · exact ⟨[], h0.symm, by simp, h2, h3, fun h => by simp at h⟩
  · obtain ⟨b, o, e, _, hf⟩ := h4 h0
    obtain ⟨l, hl, hp⟩ := list_of (p := fun i (x : At) => w.cell? ⟨b, o + i * 2, .none⟩ = .some (.int .i64 x.1) ∧ w.cell? ⟨b, o + i * 2 + 1, .none⟩ = .some (.int .i64 x.2)) at0 n (fun i hi => by
      obtain ⟨⟨z1, q1⟩, ⟨z2, q2⟩⟩ := hf i hi
      exact ⟨(z1, z2), q1, q2⟩)
    exact ⟨l, hl, by omega, h2, h3, fun _ => ⟨b, o, e, (hf 0 h0).1.lt, fun i hi => hp i (by omega)⟩⟩
theorem IntsS.ints {w : World} {n : Nat} {a : Option Addr} {cap : Nat} (h : IntsS w n a cap) : ∃ l : List Int, l.length = n ∧ IntsIn w (· < w.heap.size) l a cap := by
  obtain ⟨h1, h2, h3, h4⟩ := h
  rcases Nat.eq_zero_or_pos n with h0 | h0
  · exact ⟨[], h0.symm, by simp, h2, h3, fun h => by simp at h⟩
  · obtain ⟨b, o, e, hf⟩ := h4 h0
    obtain ⟨l, hl, hp⟩ := list_of (p := fun i (x : Int) => w.cell? ⟨b, o + i, .none⟩ = .some (.int .i64 x)) 0 n hf
    exact ⟨l, hl, by omega, h2, h3, fun _ => ⟨b, o, e, (hf 0 h0).lt, fun i hi => hp i (by omega)⟩⟩
theorem ClsS.cls {w : World} {n : Nat} {a : Option Addr} {cap : Nat} (h : ClsS w n a cap) : ∃ l : List Cl, l.length = n ∧ ClsIn w (· < w.heap.size) l a cap := by
  obtain ⟨h1, h2, h3, h4⟩ := h
  rcases Nat.eq_zero_or_pos n with h0 | h0
  · exact ⟨[], h0.symm, by simp, h2, h3, fun h => by simp at h⟩
  · obtain ⟨b, o, e, hf⟩ := h4 h0
    obtain ⟨l, hl, hp⟩ := list_of (p := fun i (c : Cl) => (∃ a' c', w.cell? ⟨b, o + i * 3, .none⟩ = .some (.slice a' c.1.length c') ∧ AtsIn w (· < w.heap.size) c.1 a' c') ∧ w.cell? ⟨b, o + i * 3 + 1, .none⟩ = .some (.int .i64 c.2.1) ∧ w.cell? ⟨b, o + i * 3 + 2, .none⟩ = .some (.int .i64 c.2.2)) cl0 n (fun i hi => by
      obtain ⟨⟨a', n', c', q1, q2⟩, ⟨z1, q3⟩, ⟨z2, q4⟩⟩ := hf i hi
      obtain ⟨fr, hl, hat⟩ := q2.ats
      subst hl
      exact ⟨(fr, (z1, z2)), ⟨a', c', q1, hat⟩, q3, q4⟩)
    exact ⟨l, hl, by omega, h2, h3, fun _ => ⟨b, o, e, (hf 0 h0).2.1.lt, fun i hi => hp i (by omega)⟩⟩

/-- What is a number stays one, and what is a slice of atoms stays one. -/
def Kd (w w' : World) : Prop := (∀ b o, IntAt w b o → IntAt w' b o) ∧ ∀ b o a n c, w.cell? ⟨b, o, none⟩ = some (.slice a n c) → AtsS w AnyB n a c → ∃ a' n' c', w'.cell? ⟨b, o, none⟩ = some (.slice a' n' c') ∧ AtsS w' AnyB n' a' c'
theorem Kd.trans {w w' w'' : World} (h : Kd w w') (k : Kd w' w'') : Kd w w'' :=
  ⟨fun b o hi => k.1 b o (h.1 b o hi), fun b o a n c hc ha => by obtain ⟨a', n', c', h1, h2⟩ := h.2 b o a n c hc ha; exact k.2 b o a' n' c' h1 h2⟩
theorem AtsS.kind {w w' : World} (hi : ∀ b o, IntAt w b o → IntAt w' b o) {P : Nat → Prop} {n : Nat} {a : Option Addr} {cap : Nat} (h : AtsS w P n a cap) : AtsS w' P n a cap := by
  obtain ⟨h1, h2, h3, h4⟩ := h
  refine ⟨h1, h2, h3, fun hx => ?_⟩
  obtain ⟨b, o, e, hb, hf⟩ := h4 hx
  exact ⟨b, o, e, hb, fun i h => ⟨hi _ _ (hf i h).1, hi _ _ (hf i h).2⟩⟩
theorem IntsS.kind {w w' : World} (k : Kd w w') {n : Nat} {a : Option Addr} {cap : Nat} (h : IntsS w n a cap) : IntsS w' n a cap := by
  obtain ⟨h1, h2, h3, h4⟩ := h
  refine ⟨h1, h2, h3, fun hx => ?_⟩
  obtain ⟨b, o, e, hf⟩ := h4 hx
  exact ⟨b, o, e, fun i h => k.1 _ _ (hf i h)⟩
theorem ClsS.kind {w w' : World} (k : Kd w w') {n : Nat} {a : Option Addr} {cap : Nat} (h : ClsS w n a cap) : ClsS w' n a cap := by
  obtain ⟨h1, h2, h3, h4⟩ := h
  refine ⟨h1, h2, h3, fun hx => ?_⟩
  obtain ⟨b, o, e, hf⟩ := h4 hx
  refine ⟨b, o, e, fun i h => ?_⟩
  obtain ⟨⟨a', n', c', q1, q2⟩, q3, q4⟩ := hf i h
  exact ⟨k.2 _ _ a' n' c' q1 q2, k.1 _ _ q3, k.1 _ _ q4⟩
theorem Kd.below {w w' : World} (hb : Below w.heap.size w w') : Kd w w' := by
  have hi : ∀ b o, IntAt w b o → IntAt w' b o := fun b o h => by
    have hl := h.lt
    obtain ⟨z, h⟩ := h
    exact ⟨z, (bcell hb b o hl).trans h⟩
  exact ⟨hi, fun b o a n c hc ha => ⟨a, n, c, (bcell hb b o (World.block_lt_of_cell? _ _ hc)).trans hc, ha.kind hi⟩⟩
theorem cell_set (w : World) (b o b' o' : Nat) (v : Value) (hs : (w.cell? ⟨b, o, none⟩).isSome = true) : (w.setCell ⟨b, o, none⟩ v).cell? ⟨b', o', none⟩ = if b = b' ∧ o = o' then some v else w.cell? ⟨b', o', none⟩ := by
  by_cases e : b = b' ∧ o = o'
  · obtain ⟨rfl, rfl⟩ := e
    rw [if_pos ⟨rfl, rfl⟩]
    exact World.cell?_setCell_same' _ _ _ hs
  · rw [if_neg e]
    exact World.cell?_setCell_other w _ _ v (fun h => e (by injection h with h1 h2 _; exact ⟨h1, h2⟩))
theorem Kd.setInt {w : World} {b o : Nat} (h : IntAt w b o) (z : Int) : Kd w (w.setCell ⟨b, o, none⟩ (.int .i64 z)) := by
  obtain ⟨z0, h0⟩ := h
  have hs : (w.cell? ⟨b, o, none⟩).isSome = true := by rw [h0]; rfl
  have hi : ∀ b' o', IntAt w b' o' → IntAt (w.setCell ⟨b, o, none⟩ (.int .i64 z)) b' o' := fun b' o' h => by
    unfold IntAt
    rw [cell_set w b o b' o' _ hs]
    split
    · exact ⟨z, rfl⟩
    · exact h
  refine ⟨hi, fun b' o' a n c hc ha => ⟨a, n, c, ?_, ha.kind hi⟩⟩
  rw [cell_set w b o b' o' _ hs, if_neg]
  · exact hc
  · rintro ⟨rfl, rfl⟩
    rw [h0] at hc
    cases hc
theorem Kd.setSlice {w : World} {b o : Nat} {a0 : Option Addr} {n0 c0 : Nat} (h : w.cell? ⟨b, o, none⟩ = some (.slice a0 n0 c0)) {a : Option Addr} {n c : Nat} (hat : AtsS w AnyB n a c) : Kd w (w.setCell ⟨b, o, none⟩ (.slice a n c)) := by
  have hs : (w.cell? ⟨b, o, none⟩).isSome = true := by rw [h]; rfl
  have hi : ∀ b' o', IntAt w b' o' → IntAt (w.setCell ⟨b, o, none⟩ (.slice a n c)) b' o' := fun b' o' hz => by
    obtain ⟨z, hz⟩ := hz
    refine ⟨z, ?_⟩
    rw [cell_set w b o b' o' _ hs, if_neg]
    · exact hz
    · rintro ⟨rfl, rfl⟩
      rw [h] at hz
      cases hz
  refine ⟨hi, fun b' o' a' n' c' hc ha => ?_⟩
  rw [cell_set w b o b' o' _ hs]
  split
  · exact ⟨a, n, c, rfl, hat.kind hi⟩
  · exact ⟨a', n', c', hc, ha.kind hi⟩

/-- A row of clauses of the call's own, by its shape; the atoms don't lie in the row's own block. -/
def SRow (w : World) (base : Nat) (v : Value) (n : Nat) : Prop := ∃ xs, w.ownsRow base 35 3 v n xs ∧
  ∀ i, i < n → (∃ a' n' c', xs[i * 3]? = some (.slice a' n' c') ∧ AtsS w (fun b => ¬ OwnB v b) n' a' c') ∧ (∃ z : Int, xs[i * 3 + 1]? = some (.int .i64 z)) ∧ ∃ z : Int, xs[i * 3 + 2]? = some (.int .i64 z)
theorem SRow.of {w : World} {base : Nat} {v : Value} {l : List Cl} (h : COwn w base v l) : SRow w base v l.length := by
  obtain ⟨xs, h, hr⟩ := h
  refine ⟨xs, h, fun i hi => ?_⟩
  obtain ⟨⟨a', c', q1, q2⟩, q3, q4⟩ := hr.at i hi
  exact ⟨⟨a', _, c', q1, (AtsS.of q2).weak (fun b hb => hb.2.2)⟩, ⟨_, q3⟩, ⟨_, q4⟩⟩
theorem SRow.lt {w : World} {base : Nat} {v : Value} {n : Nat} (h : SRow w base v n) : ∀ g, v.ownBlock = some g → base ≤ g ∧ g < w.heap.size := fun g hg => by
  obtain ⟨xs, h, _⟩ := h
  exact World.ownsRow.lt h g hg
theorem SRow.below {w w' : World} {base : Nat} {v : Value} {n : Nat} (h : SRow w base v n) (hb : Below w.heap.size w w') : SRow w' base v n := by
  have hlt := h.lt
  obtain ⟨xs, h, hr⟩ := h
  refine ⟨xs, ⟨h.1, ?_⟩, fun i hi => ?_⟩
  · rcases h.2 with hn | ⟨g, cap, cur, e, hb2, hh, rest⟩
    · exact .inl hn
    · exact .inr ⟨g, cap, cur, e, hb2, (hb.block g (hlt g (by rw [e]; rfl)).2).trans hh, rest⟩
  · obtain ⟨⟨a', n', c', q1, q2⟩, q3, q4⟩ := hr i hi
    exact ⟨⟨a', n', c', q1, q2.kind (Kd.below hb).1⟩, q3, q4⟩
/-- A clause of the row: its cells. -/
theorem SRow.at {w : World} {base g n cap : Nat} (h : SRow w base (.slice (some ⟨g, 0, none⟩) n cap) n) {i : Nat} (hi : i < n) :
    (∃ a' n' c', w.cell? ⟨g, i * 3, none⟩ = some (.slice a' n' c') ∧ AtsS w (fun b => b ≠ g) n' a' c') ∧ IntAt w g (i * 3 + 1) ∧ IntAt w g (i * 3 + 2) ∧ ∀ o, w.frozen? ⟨g, o, none⟩ = false := by
  obtain ⟨xs, h, hr⟩ := h
  obtain ⟨⟨a', n', c', q1, q2⟩, ⟨z1, q3⟩, ⟨z2, q4⟩⟩ := hr i hi
  exact ⟨⟨a', n', c', (World.ownsRow.cellAt h (i * 3) (by omega)).trans q1, q2.weak (fun b hb e => hb (by rw [e]; rfl))⟩, ⟨z1, (World.ownsRow.cellAt h (i * 3 + 1) (by omega)).trans q3⟩, ⟨z2, (World.ownsRow.cellAt h (i * 3 + 2) (by omega)).trans q4⟩, fun o => World.ownsRow.frozenAt h o⟩
theorem SRow.cls {w : World} {base g n cap : Nat} (h : SRow w base (.slice (some ⟨g, 0, none⟩) n cap) n) : ClsS w n (some ⟨g, 0, none⟩) cap := by
  have hat := fun i (hi : i < n) => h.at hi
  obtain ⟨xs, h, _⟩ := h
  rcases h.2 with ⟨e, _⟩ | ⟨g', cap', cur, e, _, _, hle, hm, _⟩
  · cases e
  · cases e
    refine ⟨hle, hm, (fun e => by cases e), fun _ => ⟨g, 0, rfl, fun i hi => ?_⟩⟩
    obtain ⟨⟨a', n', c', q1, q2⟩, q3, q4, _⟩ := hat i hi
    rw [Nat.zero_add]
    exact ⟨⟨a', n', c', q1, q2.any⟩, q3, q4⟩
/-- A clause's From is set. -/
theorem SRow.setFrom {w : World} {base g n cap : Nat} (h : SRow w base (.slice (some ⟨g, 0, none⟩) n cap) n) {q : Nat} (hq : q < n) {a' : Option Addr} {n' c' : Nat} (hat : AtsS w (fun b => b ≠ g) n' a' c') : SRow (w.setCell ⟨g, q * 3, none⟩ (.slice a' n' c')) base (.slice (some ⟨g, 0, none⟩) n cap) n := by
  obtain ⟨⟨a0, n0, c0, e0, _⟩, _⟩ := h.at hq
  obtain ⟨xs, h, hr⟩ := h
  have hs : (w.cell? ⟨g, q * 3, none⟩).isSome = true := by rw [e0]; rfl
  have hi : ∀ b' o', IntAt w b' o' → IntAt (w.setCell ⟨g, q * 3, none⟩ (.slice a' n' c')) b' o' := fun b' o' hz => by
    obtain ⟨z, hz⟩ := hz
    refine ⟨z, ?_⟩
    rw [cell_set w g (q * 3) b' o' _ hs, if_neg]
    · exact hz
    · rintro ⟨rfl, rfl⟩
      rw [e0] at hz
      cases hz
  have hl := h.1
  refine ⟨_, (World.ownsRow.stored h (q * 3) _).1, fun i hin => ?_⟩
  obtain ⟨⟨b', m', d', q1, q2⟩, q3, q4⟩ := hr i hin
  have s1 : (xs.set (q * 3) (.slice a' n' c'))[i * 3 + 1]? = xs[i * 3 + 1]? := List.getElem?_set_ne (by omega)
  have s2 : (xs.set (q * 3) (.slice a' n' c'))[i * 3 + 2]? = xs[i * 3 + 2]? := List.getElem?_set_ne (by omega)
  rw [s1, s2]
  refine ⟨?_, q3, q4⟩
  by_cases e : q = i
  · subst e
    have s0 : (xs.set (q * 3) (.slice a' n' c'))[q * 3]? = some (.slice a' n' c') := List.getElem?_set_self (by omega)
    exact ⟨a', n', c', s0, (hat.weak (fun b hb hO => hb (by injection hO with hO; exact hO.symm))).kind hi⟩
  · have s0 : (xs.set (q * 3) (.slice a' n' c'))[i * 3]? = xs[i * 3]? := List.getElem?_set_ne (by omega)
    rw [s0]
    exact ⟨b', m', d', q1, q2.kind hi⟩
/-- THE APPEND of a clause. -/
theorem SRow.push {w : World} {base n : Nat} {v : Value} (h : SRow w base v n) (ty : TypeId) {a' : Option Addr} {n' c' : Nat} {z1 z2 : Int} (hat : AtsS w (fun b => ¬ OwnB v b) n' a' c') (hsz : n ≤ 100000) (hbase : base ≤ w.heap.size) :
    ∃ g k w', (Builtin.append_ #[22, 22] ty #[v, .slice (some ⟨w.heap.size, 0, none⟩) 1 1]).run Try.prog (w.alloc (.cells #[.slice a' n' c', .int .i64 z1, .int .i64 z2] 35)) = .ok (.slice (some ⟨g, 0, none⟩) (n + 1) k) w' ∧ SRow w' base (.slice (some ⟨g, 0, none⟩) (n + 1) k) (n + 1) ∧ Turn (OwnB v) w (OwnB (.slice (some ⟨g, 0, none⟩) (n + 1) k)) w' := by
  have hlt := h.lt
  obtain ⟨xs, h, hr⟩ := h
  obtain ⟨i0, hi, hz0, hz1, hz2⟩ := info_parts infoClause
  obtain ⟨v', w', hrun, h2, h3, h4, h5⟩ := run_append_own_at (P := Try.prog) _ base 22 ty 35 i0 _ 3 40 Try.underlying22 hi hz0 hz1 hz2 rfl (by omega) v n _ (World.ownsRow.alloc h (.cells #[.slice a' n' c', .int .i64 z1, .int .i64 z2] 35)) ⟨w.heap.size, 0, none⟩ 1 1 [.slice a' n' c', .int .i64 z1, .int .i64 z2] rfl (fun j u hj => by
      have e : (⟨w.heap.size, 0, none⟩ : Addr).add j = ⟨w.heap.size, j, none⟩ := by unfold Addr.add; split <;> simp_all
      rw [e, cell_at (heap_new w _) j]
      simpa using hj) (by simp [Value.oneCell']) (by unfold maxLen; omega) (by omega) (by simp; omega)
  obtain ⟨g, k, rfl⟩ := ownsRow_succ h2
  have ht := turn_of h3 (by simpa using h5)
  have hl := h.1
  have keep : ∀ {n' : Nat} {a' : Option Addr} {c' : Nat}, AtsS w (fun b => ¬ OwnB v b) n' a' c' → AtsS w' (fun b => ¬ OwnB (.slice (some ⟨g, 0, none⟩) (n + 1) k) b) n' a' c' := fun {n' a' c'} hs => by
    obtain ⟨q1, q2, q3, q4⟩ := hs
    refine ⟨q1, q2, q3, fun hx => ?_⟩
    obtain ⟨b, o, e, hb, hf⟩ := q4 hx
    have hbl := (hf 0 hx).1.lt
    refine ⟨b, o, e, fun hO => ?_, fun i hi => ?_⟩
    · rcases ht.2.2.2.2.2 b hO with h | h
      · exact hb h
      · omega
    · have hc := ht.2.2.2.2.1 b hbl hb
      obtain ⟨⟨z1, e1⟩, ⟨z2, e2⟩⟩ := hf i hi
      exact ⟨⟨z1, (World.cell?_of_block (w := w) hc).trans e1⟩, ⟨z2, (World.cell?_of_block (w := w) hc).trans e2⟩⟩
  refine ⟨g, k, w', hrun, ⟨_, h2, fun i hin => ?_⟩, ht⟩
  by_cases e : i < n
  · obtain ⟨⟨b', m', d', q1, q2⟩, q3, q4⟩ := hr i e
    rw [List.getElem?_append_left (by omega), List.getElem?_append_left (by omega), List.getElem?_append_left (by omega)]
    exact ⟨⟨b', m', d', q1, keep q2⟩, q3, q4⟩
  · obtain rfl : i = n := by omega
    rw [List.getElem?_append_right (by omega), List.getElem?_append_right (by omega), List.getElem?_append_right (by omega), hl]
    rw [show i * 3 - i * 3 = 0 by omega, show i * 3 + 1 - i * 3 = 1 by omega, show i * 3 + 2 - i * 3 = 2 by omega]
    exact ⟨⟨a', n', c', rfl, keep hat⟩, ⟨z1, rfl⟩, ⟨z2, rfl⟩⟩
/-- The copy of a row of atoms by append onto nil. -/
theorem at_copy {W : World} (ty : TypeId) {P : Nat → Prop} {n c : Nat} {a : Option Addr} (hat : AtsS W P n a c) (hn : 0 < n) (hn2 : n ≤ 100) :
    ∃ g k w', (Builtin.append_ #[28, 28] ty #[.slice none 0 0, .slice a n c]).run Try.prog W = .ok (.slice (some ⟨g, 0, none⟩) n k) w' ∧ Below W.heap.size W w' ∧ AtsS w' (fun b => W.heap.size ≤ b) n (some ⟨g, 0, none⟩) k ∧ W.heap.size ≤ g ∧ (∀ o, w'.frozen? ⟨g, o, none⟩ = false) := by
  obtain ⟨l, hl, hin⟩ := hat.ats
  subst hl
  obtain ⟨b, o, rfl, _, hc⟩ := hin.some hn
  obtain ⟨i0, hi, hz0, hz1, hz2⟩ := info_parts infoAtom
  have news : ∀ j u, (atCells l)[j]? = some u → W.cell? ((⟨b, o, none⟩ : Addr).add j) = some u := fun j u hj => by
    have e : (⟨b, o, none⟩ : Addr).add j = ⟨b, o + j, none⟩ := by unfold Addr.add; split <;> simp_all
    have hjl : j < l.length * 2 := by have := (List.getElem?_eq_some_iff.1 hj).1; rwa [atCells_len] at this
    have ha := atCells_at l (j / 2) (by omega)
    have hcc := hc (j / 2) (by omega)
    rw [e]
    rcases Nat.mod_two_eq_zero_or_one j with h | h
    · rw [show j = j / 2 * 2 by omega] at hj ⊢
      rw [ha.1] at hj
      rw [hcc.1]; exact hj
    · rw [show j = j / 2 * 2 + 1 by omega] at hj ⊢
      rw [ha.2] at hj
      rw [← Nat.add_assoc, hcc.2]; exact hj
  have one : ∀ l : List At, ∀ u ∈ atCells l, u.oneCell' = true := fun l => by
    induction l with
    | nil => intro u hu; simp [atCells] at hu
    | cons x r ih =>
      intro u hu
      simp only [atCells, List.mem_cons] at hu
      rcases hu with rfl | rfl | hu
      · rfl
      · rfl
      · exact ih u hu
  obtain ⟨v', w', hrun, h2, h3, h4, h5⟩ := run_append_own_at (P := Try.prog) W W.heap.size 28 ty 27 i0 _ 2 16 Try.underlying28 hi hz0 hz1 hz2 rfl (by omega) _ 0 _ (World.ownsRow_nil W W.heap.size 27 2) ⟨b, o, none⟩ l.length c (atCells l) (atCells_len l) news (one l) (by unfold maxLen; omega) (by omega) (Nat.le_refl _)
  rw [Nat.zero_add, List.nil_append] at h2
  have hform : ∃ g k, v' = .slice (some ⟨g, 0, none⟩) l.length k := by
    rcases h2.2 with ⟨rfl, h0⟩ | ⟨g, k, cur, rfl, _⟩
    · omega
    · exact ⟨g, k, rfl⟩
  obtain ⟨g, k, rfl⟩ := hform
  have hao : AOwn w' W.heap.size (.slice (some ⟨g, 0, none⟩) l.length k) l := h2
  exact ⟨g, k, w', hrun, ⟨h3.os, h3.tape, h3.output, h3.size, fun k hk => h3.block k hk (by simp [Value.ownBlock])⟩, (AtsS.of hao.ats).weak (fun _ hb => hb.1), (hao.lt g rfl).1, fun o => World.ownsRow.frozenAt h2 o⟩
/-- Rows of noughts that are made. -/
theorem make_ats5 (w : World) : (Instr.makeSlice 28 (.int .i64 5) (.int .i64 5)).run Try.prog w = .ok (.slice (some ⟨w.heap.size, 0, none⟩) 5 5) (w.alloc (.cells (List.replicate 10 (Value.int .i64 0)).toArray 27)) := by kernel_rfl
theorem make_ats6 (w : World) : (Instr.makeSlice 28 (.int .i64 6) (.int .i64 6)).run Try.prog w = .ok (.slice (some ⟨w.heap.size, 0, none⟩) 6 6) (w.alloc (.cells (List.replicate 12 (Value.int .i64 0)).toArray 27)) := by kernel_rfl
theorem make_ats7 (w : World) : (Instr.makeSlice 28 (.int .i64 7) (.int .i64 7)).run Try.prog w = .ok (.slice (some ⟨w.heap.size, 0, none⟩) 7 7) (w.alloc (.cells (List.replicate 14 (Value.int .i64 0)).toArray 27)) := by kernel_rfl
theorem noughts (w : World) (N : Nat) (hN : N ≤ 100) : AtsS (w.alloc (.cells (List.replicate (N * 2) (Value.int .i64 0)).toArray 27)) (fun b => w.heap.size ≤ b) N (some ⟨w.heap.size, 0, none⟩) N := by
  have h := heap_new w (.cells (List.replicate (N * 2) (Value.int .i64 0)).toArray 27)
  have hc : ∀ j, j < N * 2 → IntAt (w.alloc (.cells (List.replicate (N * 2) (Value.int .i64 0)).toArray 27)) w.heap.size j := fun j hj => ⟨0, by rw [cell_at h j]; simp [hj]⟩
  refine ⟨Nat.le_refl _, by unfold maxLen; omega, (fun h => by cases h), fun _ => ⟨w.heap.size, 0, rfl, Nat.le_refl _, fun i hi => ⟨hc _ (by omega), hc _ (by omega)⟩⟩⟩
theorem IntsS.of {w : World} {P : Nat → Prop} {l : List Int} {a : Option Addr} {cap : Nat} (h : IntsIn w P l a cap) : IntsS w l.length a cap := by
  obtain ⟨h1, h2, h3, h4⟩ := h
  refine ⟨h1, h2, h3, fun hx => ?_⟩
  obtain ⟨b, o, e, _, hf⟩ := h4 hx
  exact ⟨b, o, e, fun i hi => ⟨_, hf i hi⟩⟩
end Go.Proofs.Ytglggigndhbpcaa
