/- A row of clauses of the call's own whose atoms lie in elder blocks; a copy of a row of numbers, and a number set in it. No condition but those that stand in each statement. -/
import Derived.Test.YtglggigndhbpcaaZHmake
import Derived.Test.YtglggigndhbpcaaZHvars
import Derived.Test.YtglggigndhbpcaaZOwn
namespace Go.Proofs.Ytglggigndhbpcaa
open Go.RowKit

def CRow (w : World) (B base : Nat) (v : Value) (l : List Cl) : Prop := ∃ xs, w.ownsRow base 35 3 v l.length xs ∧ RepC w (· < B) l xs
theorem CRow.nil (w : World) (B base : Nat) : CRow w B base (.slice none 0 0) [] := ⟨[], World.ownsRow_nil w base _ _, rfl⟩
theorem CRow.form {w : World} {B base : Nat} {v : Value} {l : List Cl} (h : CRow w B base v l) : ∃ x c, v = .slice x l.length c := by
  obtain ⟨xs, h, _⟩ := h
  rcases h.2 with ⟨rfl, h0⟩ | ⟨g, cap, cur, rfl, _⟩
  · exact ⟨none, 0, by rw [h0]⟩
  · exact ⟨_, _, rfl⟩
theorem CRow.lt {w : World} {B base : Nat} {v : Value} {l : List Cl} (h : CRow w B base v l) : ∀ g, v.ownBlock = some g → base ≤ g ∧ g < w.heap.size := fun g hg => by
  obtain ⟨xs, h, _⟩ := h
  exact World.ownsRow.lt h g hg
theorem CRow.keep {w w' : World} {B base : Nat} {v : Value} {l : List Cl} (h : CRow w B base v l) (hk : ∀ b, b < B → w'.heap[b]? = w.heap[b]?) (hg : ∀ g, v.ownBlock = some g → w'.heap[g]? = w.heap[g]?) : CRow w' B base v l := by
  obtain ⟨xs, h, hr⟩ := h
  refine ⟨xs, ⟨h.1, ?_⟩, hr.keep hk (fun _ hb => hb)⟩
  rcases h.2 with hn | ⟨g, cap, cur, e, hb, hh, rest⟩
  · exact .inl hn
  · exact .inr ⟨g, cap, cur, e, hb, (hg g (by rw [e]; rfl)).trans hh, rest⟩
theorem CRow.cls {w : World} {B base : Nat} {x : Option Addr} {c : Nat} {l : List Cl} (h : CRow w B base (.slice x l.length c) l) (hB : B ≤ w.heap.size) : ClsIn w (· < w.heap.size) l x c := by
  obtain ⟨xs, h, hr⟩ := h
  rcases h.2 with ⟨e, h0⟩ | ⟨g, cap, cur, e, hb, hh, hle, hm, _⟩
  · injection e with e1 _ e3
    subst e1 e3
    exact ⟨by omega, Nat.zero_le _, fun _ => rfl, fun hx => by omega⟩
  · injection e with e1 _ e3
    subst e1 e3
    refine ⟨hle, hm, (fun e => by cases e), fun _ => ⟨g, 0, rfl, lt_of_block hh, fun i hi => ?_⟩⟩
    obtain ⟨⟨a, cap', q1, q2⟩, q3, q4⟩ := hr.at i hi
    rw [Nat.zero_add]
    exact ⟨⟨a, cap', (World.ownsRow.cellAt h (i * 3) (by omega)).trans q1, q2.weak (fun b hb => Nat.lt_of_lt_of_le hb hB)⟩, (World.ownsRow.cellAt h (i * 3 + 1) (by omega)).trans q3, (World.ownsRow.cellAt h (i * 3 + 2) (by omega)).trans q4⟩
/-- THE APPEND of a clause whose atoms lie in elder blocks. -/
theorem CRow.push {w : World} {B base : Nat} {v : Value} {l : List Cl} (h : CRow w B base v l) (hBb : B ≤ base) (ty : TypeId) (c : Cl) {a : Option Addr} {cap : Nat} (hat : AtsIn w (· < B) c.1 a cap) (hsz : l.length ≤ 100000) (hbase : base ≤ w.heap.size) :
    ∃ g k w', (Builtin.append_ #[22, 22] ty #[v, .slice (some ⟨w.heap.size, 0, none⟩) 1 1]).run Try.prog (w.alloc (.cells #[.slice a c.1.length cap, .int .i64 c.2.1, .int .i64 c.2.2] 35)) = .ok (.slice (some ⟨g, 0, none⟩) (l.length + 1) k) w' ∧ CRow w' B base (.slice (some ⟨g, 0, none⟩) (l.length + 1) k) (l ++ [c]) ∧ Turn (OwnB v) w (OwnB (.slice (some ⟨g, 0, none⟩) (l.length + 1) k)) w' := by
  have hown := h.lt
  obtain ⟨xs, h, hr⟩ := h
  obtain ⟨i0, hi, hz0, hz1, hz2⟩ := info_parts infoClause
  obtain ⟨v', w', hrun, h2, h3, h4, h5⟩ := run_append_own_at (P := Try.prog) _ base 22 ty 35 i0 _ 3 40 Try.underlying22 hi hz0 hz1 hz2 rfl (by omega) v l.length _ (World.ownsRow.alloc h (.cells #[.slice a c.1.length cap, .int .i64 c.2.1, .int .i64 c.2.2] 35)) ⟨w.heap.size, 0, none⟩ 1 1 [.slice a c.1.length cap, .int .i64 c.2.1, .int .i64 c.2.2] rfl (fun j u hj => by
      have e : (⟨w.heap.size, 0, none⟩ : Addr).add j = ⟨w.heap.size, j, none⟩ := by unfold Addr.add; split <;> simp_all
      rw [e, cell_at (heap_new w _) j]
      simpa using hj) (by simp [Value.oneCell']) (by unfold maxLen; omega) (by omega) (by simp; omega)
  obtain ⟨g, k, rfl⟩ := ownsRow_succ h2
  have ht := turn_of h3 (by simpa using h5)
  have hP : ∀ b, b < B → w'.heap[b]? = w.heap[b]? := fun b hb => ht.2.2.2.2.1 b (by omega) (fun hO => by have := (hown b hO).1; omega)
  refine ⟨g, k, w', hrun, ⟨xs ++ [.slice a c.1.length cap, .int .i64 c.2.1, .int .i64 c.2.2], by rw [List.length_append]; exact h2, (hr.keep hP (fun _ hb => hb)).app ⟨a, cap, [], rfl, hat.keep hP, rfl⟩⟩, ht⟩
/-- A number is set in a row of the call's own. -/
theorem IOwn.setAt {w : World} {base g c n : Nat} {zs : List Int} (h : IOwn w base (.slice (some ⟨g, 0, none⟩) n c) zs) (hn : zs.length = n) (i : Nat) (z : Int) : IOwn (w.setCell ⟨g, i, none⟩ (.int .i64 z)) base (.slice (some ⟨g, 0, none⟩) n c) (zs.set i z) := by
  subst hn
  unfold IOwn at h ⊢
  have := World.ownsRow.stored h i (.int .i64 z)
  rw [List.length_set, List.map_set]
  exact this.1
theorem IOwn.cell {w : World} {base g c n : Nat} {zs : List Int} (h : IOwn w base (.slice (some ⟨g, 0, none⟩) n c) zs) (hn : zs.length = n) {i : Nat} (hi : i < n) : w.cell? ⟨g, i, none⟩ = some (.int .i64 (zs.getD i 0)) ∧ w.frozen? ⟨g, i, none⟩ = false := by
  subst hn
  obtain ⟨g', c', hv, _, _, hc⟩ := h.at hi
  cases hv
  exact ⟨hc, World.ownsRow.frozenAt h i⟩
/-- The copy of a row of numbers by append onto nil. -/
theorem int_copy {W : World} (ty : TypeId) {g V : Nat} {m : List Int} (hl : m.length = V) (hV : 0 < V) (hV2 : V ≤ 100) (hS : NumB W g m) :
    ∃ g' c' w', (Builtin.append_ #[23, 23] ty #[.slice none 0 0, .slice (some ⟨g, 0, none⟩) V V]).run Try.prog W = .ok (.slice (some ⟨g', 0, none⟩) V c') w' ∧ IOwn w' W.heap.size (.slice (some ⟨g', 0, none⟩) V c') m ∧ Below W.heap.size W w' := by
  subst hl
  obtain ⟨i0, hi, hz0, hz1, hz2⟩ := info_parts h_infoInt
  have hc : ∀ j u, (m.map (Value.int .i64))[j]? = some u → W.cell? ((⟨g, 0, none⟩ : Addr).add j) = some u := by
    intro j u hj
    have hjl : j < m.length := by have := (List.getElem?_eq_some_iff.1 hj).1; simpa using this
    rw [List.getElem?_map, List.getElem?_eq_getElem hjl] at hj
    have ha : (⟨g, 0, none⟩ : Addr).add j = ⟨g, j, none⟩ := by unfold Addr.add; split <;> simp_all
    rw [ha, hS.at hjl, ← hj, List.getD_eq_getElem?_getD, List.getElem?_eq_getElem hjl]
    rfl
  have h1 : ∀ u ∈ m.map (Value.int .i64), u.oneCell' = true := by
    intro u hu
    obtain ⟨z, _, rfl⟩ := List.mem_map.1 hu
    rfl
  obtain ⟨v', w', hrun, h2, h3, h4, h5⟩ := run_append_own_at (P := Try.prog) W W.heap.size 23 ty 3 i0 _ 1 8 Try.underlying23 hi hz0 hz1 hz2 rfl (by omega) _ 0 _ (World.ownsRow_nil W W.heap.size 3 1) ⟨g, 0, none⟩ m.length m.length (m.map (Value.int .i64)) (by simp) hc h1 (by unfold maxLen; omega) (by omega) (Nat.le_refl _)
  rw [Nat.zero_add, List.nil_append] at h2
  have hform : ∃ g' c', v' = .slice (some ⟨g', 0, none⟩) m.length c' := by
    rcases h2.2 with ⟨rfl, h0⟩ | ⟨g', c', cur, rfl, _⟩
    · omega
    · exact ⟨g', c', rfl⟩
  obtain ⟨g', c', rfl⟩ := hform
  exact ⟨g', c', w', hrun, h2, ⟨h3.os, h3.tape, h3.output, h3.size, fun k hk => h3.block k hk (by simp [Value.ownBlock])⟩⟩
/-- A number is set in each of two rows of the call's own. -/
theorem two_set {w : World} {base g1 g2 V c1 c2 : Nat} {p q : List Int} (h1 : IOwn w base (.slice (some ⟨g1, 0, none⟩) V c1) p) (h2 : IOwn w base (.slice (some ⟨g2, 0, none⟩) V c2) q) (l1 : p.length = V) (l2 : q.length = V) (hne : g1 ≠ g2) (i : Nat) (x y : Int) :
    IOwn (((w.setCell ⟨g1, i, none⟩ (.int .i64 x)).setCell ⟨g2, i, none⟩ (.int .i64 y)).drew) base (.slice (some ⟨g1, 0, none⟩) V c1) (p.set i x) ∧ IOwn (((w.setCell ⟨g1, i, none⟩ (.int .i64 x)).setCell ⟨g2, i, none⟩ (.int .i64 y)).drew) base (.slice (some ⟨g2, 0, none⟩) V c2) (q.set i y) := by
  have a1 := h1.setAt l1 i x
  have a2 : IOwn (w.setCell ⟨g1, i, none⟩ (.int .i64 x)) base (.slice (some ⟨g2, 0, none⟩) V c2) q := h2.keep (fun g hg => by cases hg; exact Below.heap_setCell _ _ _ _ (show g2 ≠ g1 from Ne.symm hne))
  have a3 := a2.setAt l2 i y
  have a4 : IOwn ((w.setCell ⟨g1, i, none⟩ (.int .i64 x)).setCell ⟨g2, i, none⟩ (.int .i64 y)) base (.slice (some ⟨g1, 0, none⟩) V c1) (p.set i x) := a1.keep (fun g hg => by cases hg; exact Below.heap_setCell _ _ _ _ (show g1 ≠ g2 from hne))
  exact ⟨a4, a3⟩
theorem IOwn.ints2 {w : World} {base n c : Nat} {x : Option Addr} {zs : List Int} (h : IOwn w base (.slice x n c) zs) (hn : zs.length = n) : IntsIn w (· < w.heap.size) zs x c := by
  subst hn
  exact h.ints
end Go.Proofs.Ytglggigndhbpcaa
/- Many clauses put behind a row of clauses of the call's own, whose atoms lie in elder blocks; parts of a list of clauses. No condition but those that stand in each statement. -/
namespace Go.Proofs.Ytglggigndhbpcaa
open Go.RowKit

/-- The clauses lie from a cell on. -/
def SrcC (w : World) (P : Nat → Prop) (g o : Nat) (l : List Cl) : Prop :=
  ∀ i, i < l.length → (∃ a' c', w.cell? ⟨g, o + i * 3, none⟩ = some (.slice a' (l.getD i cl0).1.length c') ∧ AtsIn w P (l.getD i cl0).1 a' c') ∧
    w.cell? ⟨g, o + i * 3 + 1, none⟩ = some (.int .i64 (l.getD i cl0).2.1) ∧ w.cell? ⟨g, o + i * 3 + 2, none⟩ = some (.int .i64 (l.getD i cl0).2.2)
theorem SrcC.keep {w w' : World} {P : Nat → Prop} {g o : Nat} {l : List Cl} (h : SrcC w P g o l) (hg : w'.heap[g]? = w.heap[g]?) (hP : ∀ b, P b → w'.heap[b]? = w.heap[b]?) : SrcC w' P g o l := fun i hi => by
  obtain ⟨⟨a', c', h1, h2⟩, h3, h4⟩ := h i hi
  exact ⟨⟨a', c', (World.cell?_of_block (w := w) (a := ⟨g, o + i * 3, none⟩) hg).trans h1, h2.keep hP⟩, (World.cell?_of_block (w := w) (a := ⟨g, o + i * 3 + 1, none⟩) hg).trans h3, (World.cell?_of_block (w := w) (a := ⟨g, o + i * 3 + 2, none⟩) hg).trans h4⟩
theorem SrcC.take {w : World} {P : Nat → Prop} {g o : Nat} {l : List Cl} (h : SrcC w P g o l) (k : Nat) : SrcC w P g o (l.take k) := fun i hi => by
  rw [List.length_take] at hi
  have e : (l.take k).getD i cl0 = l.getD i cl0 := by rw [List.getD_eq_getElem?_getD, List.getD_eq_getElem?_getD, List.getElem?_take, if_pos (by omega)]
  rw [e]
  exact h i (by omega)
theorem SrcC.drop {w : World} {P : Nat → Prop} {g o : Nat} {l : List Cl} (h : SrcC w P g o l) (k : Nat) : SrcC w P g (o + k * 3) (l.drop k) := fun i hi => by
  rw [List.length_drop] at hi
  have e : (l.drop k).getD i cl0 = l.getD (k + i) cl0 := by rw [List.getD_eq_getElem?_getD, List.getD_eq_getElem?_getD, List.getElem?_drop]
  have := h (k + i) (by omega)
  rw [e, show o + k * 3 + i * 3 = o + (k + i) * 3 by omega]
  exact this
theorem SrcC.rep {w : World} {P : Nat → Prop} {g : Nat} : ∀ {l : List Cl} {o : Nat}, SrcC w P g o l → ∃ xs, RepC w P l xs ∧ ∀ j u, xs[j]? = some u → w.cell? ⟨g, o + j, none⟩ = some u
  | [], o, _ => ⟨[], rfl, fun j u h => by simp at h⟩
  | c :: r, o, h => by
    obtain ⟨⟨a', c', h1, h2⟩, h3, h4⟩ := h 0 (by simp)
    have hr : SrcC w P g (o + 3) r := fun i hi => by
      have := h (i + 1) (by simpa using hi)
      rw [show o + (i + 1) * 3 = o + 3 + i * 3 by omega] at this
      exact this
    obtain ⟨xs, hx, hc⟩ := hr.rep
    refine ⟨.slice a' c.1.length c' :: .int .i64 c.2.1 :: .int .i64 c.2.2 :: xs, ⟨a', c', xs, rfl, h2, hx⟩, fun j u hj => ?_⟩
    match j, hj with
    | 0, hj => cases hj; exact h1
    | 1, hj => cases hj; exact h3
    | 2, hj => cases hj; exact h4
    | j + 3, hj =>
      rw [show o + (j + 3) = o + 3 + j by omega]
      exact hc j u (by simpa using hj)
theorem ClsIn.src {w : World} {P : Nat → Prop} {l : List Cl} {g o cap : Nat} (h : ClsIn w P l (Option.some ⟨g, o, Option.none⟩) cap) (hl : 0 < l.length) : SrcC w P g o l ∧ P g := by
  obtain ⟨b, o', e, hb, hf⟩ := h.some hl
  cases e
  exact ⟨hf, hb⟩
/-- THE APPEND of many clauses whose atoms lie in elder blocks. -/
theorem CRow.many {w : World} {B base : Nat} {v : Value} {l ms : List Cl} (h : CRow w B base v l) (hBb : B ≤ base) (ty : TypeId) {g o n c : Nat} (hs : 0 < ms.length → SrcC w (· < B) g o ms) (hn : ms.length = n) (hsz : l.length + ms.length ≤ 100000) (hbase : base ≤ w.heap.size) :
    ∃ v' w', (Builtin.append_ #[22, 22] ty #[v, .slice (some ⟨g, o, none⟩) n c]).run Try.prog w = .ok v' w' ∧ CRow w' B base v' (l ++ ms) ∧ Turn (OwnB v) w (OwnB v') w' := by
  subst hn
  have hown := h.lt
  obtain ⟨xs, h, hr⟩ := h
  obtain ⟨i0, hi, hz0, hz1, hz2⟩ := info_parts infoClause
  obtain ⟨ns, hns, hcs⟩ : ∃ ns, RepC w (· < B) ms ns ∧ ∀ j u, ns[j]? = some u → w.cell? ⟨g, o + j, none⟩ = some u := by
    rcases Nat.eq_zero_or_pos ms.length with h0 | h0
    · obtain rfl := List.eq_nil_of_length_eq_zero h0
      exact ⟨[], rfl, fun j u hj => by simp at hj⟩
    · exact (hs h0).rep
  obtain ⟨v', w', hrun, h2, h3, _, h5⟩ := run_append_own_at (P := Try.prog) w base 22 ty 35 i0 _ 3 40 Try.underlying22 hi hz0 hz1 hz2 rfl (by omega) v l.length _ h ⟨g, o, none⟩ ms.length c ns hns.length (fun j u hj => by
      have e : (⟨g, o, none⟩ : Addr).add j = ⟨g, o + j, none⟩ := by unfold Addr.add; split <;> simp_all
      rw [e]; exact hcs j u hj) hns.one (by unfold maxLen; omega) (by omega) hbase
  have ht : Turn (OwnB v) w (OwnB v') w' := ⟨h3.os, h3.tape, h3.output, h3.size, fun b hb hn => h3.block b hb (fun e => hn e.symm), fun b hO => by
    rcases h5 with e | e
    · exact .inl (by unfold OwnB at hO ⊢; rw [← e]; exact hO)
    · unfold OwnB at hO; rw [e] at hO; injection hO with hO; exact .inr (by omega)⟩
  have hP : ∀ b, b < B → w'.heap[b]? = w.heap[b]? := fun b hb => ht.2.2.2.2.1 b (by omega) (fun hO => by have := (hown b hO).1; omega)
  exact ⟨v', w', hrun, ⟨xs ++ ns, by rw [List.length_append]; exact h2, (hr.keep hP (fun _ hb => hb)).app (hns.keep hP (fun _ hb => hb))⟩, ht⟩
/-- Two parts of a list, one behind the other, in a new row. -/
theorem two_parts {w W : World} {B g n1 n2 n3 c1 c2 : Nat} {a1 a2 : Option Addr} {p q : List Cl} (ty : TypeId) (hB : B ≤ w.heap.size) (hg : g < w.heap.size) (hb : Below w.heap.size w W) (h1 : ∃ o, a1 = some ⟨g, o, none⟩ ∧ (0 < p.length → SrcC w (· < B) g o p)) (h2 : ∃ o, a2 = some ⟨g, o, none⟩ ∧ (0 < q.length → SrcC w (· < B) g o q)) (l1 : p.length = n1) (l2 : q.length = n2) (l3 : n1 + n2 = n3) (hsz : n3 ≤ 1000) :
    ∃ v1 W1 x c W2, Hid ((Builtin.append_ #[22, 22] ty #[.slice none 0 0, .slice a1 n1 c1]).run Try.prog W = .ok v1 W1) ∧ Hid ((Builtin.append_ #[22, 22] ty #[v1, .slice a2 n2 c2]).run Try.prog W1 = .ok (.slice x n3 c) W2) ∧
      Hid (ClsIn W2 (· < W2.heap.size) (p ++ q) x c) ∧ Hid (Below w.heap.size w W2) ∧ Hid (Below W.heap.size W W2) := by
  obtain ⟨o1, rfl, h1⟩ := h1
  obtain ⟨o2, rfl, h2⟩ := h2
  have hz := hb.size
  obtain ⟨v1, W1, r1, k1, t1⟩ := (CRow.nil W B W.heap.size).many (by omega) ty (g := g) (o := o1) (c := c1) (fun h0 => (h1 h0).keep (hb.block g hg) (fun b hb2 => hb.block b (by omega))) l1 (by simp; omega) (Nat.le_refl _)
  rw [List.nil_append] at k1
  have b1 : Below w.heap.size w W1 := hb.trans (t1.low hz (fun b hO => by cases hO))
  have bW1 : Below W.heap.size W W1 := t1.low (Nat.le_refl _) (fun b hO => by cases hO)
  have hlt := k1.lt
  obtain ⟨v2, W2, r2, k2, t2⟩ := k1.many (by omega) ty (g := g) (o := o2) (c := c2) (fun h0 => (h2 h0).keep (b1.block g hg) (fun b hb2 => b1.block b (by omega))) l2 (by omega) (by have := t1.2.2.2.1; omega)
  obtain ⟨x, c, rfl⟩ := k2.form
  have hz2 := t2.2.2.2.1
  have hz1 := t1.2.2.2.1
  have hl3 : (p ++ q).length = n3 := by rw [List.length_append]; omega
  refine ⟨v1, W1, x, c, W2, Lib.hid r1, Lib.hid (by rw [← hl3]; exact r2), Lib.hid (k2.cls (by omega)), Lib.hid (b1.trans (t2.low (by omega) (fun b hO => by have := (hlt b hO).1; omega))), Lib.hid (bW1.trans (t2.low (by omega) (fun b hO => (hlt b hO).1)))⟩
/-- One clause of a list, as a list. -/
theorem SrcC.one {w : World} {P : Nat → Prop} {g o cap : Nat} {l : List Cl} (h : SrcC w P g o l) {k : Nat} (hk : k < l.length) (h1 : 1 ≤ cap) (h2 : cap ≤ maxLen) (hP : P g) : ClsIn w P [l.getD k cl0] (some ⟨g, o + k * 3, none⟩) cap := by
  refine ⟨h1, h2, (fun e => by cases e), fun _ => ⟨g, o + k * 3, rfl, hP, fun i hi => ?_⟩⟩
  have hi0 : i = 0 := by simp at hi; exact hi
  subst hi0
  have := h k hk
  simpa using this
end Go.Proofs.Ytglggigndhbpcaa
