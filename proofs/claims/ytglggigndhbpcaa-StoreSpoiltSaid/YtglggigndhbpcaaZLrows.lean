/- Appends of a slice that came in, whatever it holds, to a row of the call's own: of numbers, of atoms, of clauses whose atoms lie in other blocks than the row. No condition but those that stand in each statement. -/
import Derived.Test.YtglggigndhbpcaaZHro
import Derived.Test.YtglggigndhbpcaaZJclone
import Derived.Test.YtglggigndhbpcaaZWpl
import Derived.Lib.SliceRun
namespace Go.Proofs.Ytglggigndhbpcaa
open Go.RowKit

theorem append_nothing {t e ty : TypeId} {i : TypeInfo} (ht : Try.prog.underlying t = some (.slice e)) (hi : Try.prog.info? e = some i) (x : Option Addr) (n c d : Nat) (h : n ≤ c) (w : World) :
    (Builtin.append_ #[t, t] ty #[.slice x n c, .slice none 0 d]).run Try.prog w = .ok (.slice x n c) w := by
  cases x <;> simp [Builtin.append_, run_underlying ht, sizeOf, typeInfo, hi, Builtin.lenOf, Builtin.firstCells, storeCells, h]
theorem own_form {w : World} {base size n : Nat} {e : TypeId} {v : Value} {xs : List Value} (h : w.ownsRow base e size v n xs) : ∃ x c, v = .slice x n c ∧ n ≤ c := by
  rcases h.2 with ⟨rfl, h0⟩ | ⟨g, cap, cur, rfl, _, _, hle, _⟩
  · exact ⟨none, 0, by rw [h0], by omega⟩
  · exact ⟨_, _, rfl, hle⟩
theorem turn_same (O : Nat → Prop) (w : World) : Turn O w O w := Turn.refl O w
theorem turn_grown {w w' : World} {v v' : Value} (h3 : w.grownBy w' v.ownBlock) (h5 : v'.ownBlock = v.ownBlock ∨ v'.ownBlock = some w.heap.size) : Turn (OwnB v) w (OwnB v') w' :=
  ⟨h3.os, h3.tape, h3.output, h3.size, fun b hb hn => h3.block b hb (fun e => hn e.symm), fun b hO => by
    rcases h5 with e | e
    · exact .inl (by unfold OwnB at hO ⊢; rw [← e]; exact hO)
    · unfold OwnB at hO; rw [e] at hO; injection hO with hO; exact .inr (by omega)⟩
/-- Numbers, put behind. -/
theorem IOwn.add {w : World} {base : Nat} {P : Nat → Prop} {v : Value} {zs ms : List Int} {a : Option Addr} {cap : Nat} (h : IOwn w base v zs) (hin : IntsIn w P ms a cap) (ty : TypeId) (hsz : zs.length + ms.length ≤ 1000000) (hbase : base ≤ w.heap.size) :
    ∃ v' w', (Builtin.append_ #[23, 23] ty #[v, .slice a ms.length cap]).run Try.prog w = .ok v' w' ∧ IOwn w' base v' (zs ++ ms) ∧ Turn (OwnB v) w (OwnB v') w' := by
  obtain ⟨i0, hi, hz0, hz1, hz2⟩ := info_parts infoInt
  cases a with
  | none =>
    have hc : cap = 0 := hin.2.2.1 rfl
    have hl : ms.length = 0 := by have := hin.1; omega
    obtain rfl := List.eq_nil_of_length_eq_zero hl
    obtain ⟨x, c, rfl, hle⟩ := own_form h
    exact ⟨_, w, append_nothing Try.underlying23 hi x _ c cap hle w, by rw [List.append_nil]; exact h, Turn.refl _ _⟩
  | some ad =>
    have hnews : ∀ j u, (ms.map (Value.int .i64))[j]? = some u → w.cell? (ad.add j) = some u := by
      intro j u hj
      have hjl : j < ms.length := by have := (List.getElem?_eq_some_iff.1 hj).1; simpa using this
      obtain ⟨b, o, e, _, hat⟩ := hin.some (by omega)
      cases e
      rw [List.getElem?_map, List.getElem?_eq_getElem hjl] at hj
      have ha : (⟨b, o, none⟩ : Addr).add j = ⟨b, o + j, none⟩ := by unfold Addr.add; split <;> simp_all
      rw [ha, hat j hjl, ← hj, List.getD_eq_getElem?_getD, List.getElem?_eq_getElem hjl]
      rfl
    have hone : ∀ u ∈ ms.map (Value.int .i64), u.oneCell' = true := by
      intro u hu
      obtain ⟨z, _, rfl⟩ := List.mem_map.1 hu
      rfl
    obtain ⟨v', w', hrun, h2, h3, _, h5⟩ := run_append_own_at (P := Try.prog) w base 23 ty 3 i0 _ 1 8 Try.underlying23 hi hz0 hz1 hz2 rfl (by omega) v zs.length _ h ad ms.length cap (ms.map (Value.int .i64)) (by simp) hnews hone (by unfold maxLen; omega) (by omega) hbase
    refine ⟨v', w', hrun, ?_, turn_grown h3 h5⟩
    unfold IOwn
    rw [List.length_append, List.map_append]
    exact h2
theorem atCells_one : ∀ l : List At, ∀ u ∈ atCells l, u.oneCell' = true
  | [], u, hu => by simp [atCells] at hu
  | x :: r, u, hu => by
    simp only [atCells, List.mem_cons] at hu
    rcases hu with rfl | rfl | hu
    · rfl
    · rfl
    · exact atCells_one r u hu
/-- Atoms, put behind. -/
theorem AOwn.add {w : World} {base : Nat} {P : Nat → Prop} {v : Value} {zs ms : List At} {a : Option Addr} {cap : Nat} (h : AOwn w base v zs) (hin : AtsIn w P ms a cap) (ty : TypeId) (hsz : zs.length + ms.length ≤ 100000) (hbase : base ≤ w.heap.size) :
    ∃ v' w', (Builtin.append_ #[28, 28] ty #[v, .slice a ms.length cap]).run Try.prog w = .ok v' w' ∧ AOwn w' base v' (zs ++ ms) ∧ Turn (OwnB v) w (OwnB v') w' := by
  obtain ⟨i0, hi, hz0, hz1, hz2⟩ := info_parts infoAtom
  cases a with
  | none =>
    have hc : cap = 0 := hin.2.2.1 rfl
    have hl : ms.length = 0 := by have := hin.1; omega
    obtain rfl := List.eq_nil_of_length_eq_zero hl
    obtain ⟨x, c, rfl, hle⟩ := own_form h
    exact ⟨_, w, append_nothing Try.underlying28 hi x _ c cap hle w, by rw [List.append_nil]; exact h, Turn.refl _ _⟩
  | some ad =>
    have hnews : ∀ j u, (atCells ms)[j]? = some u → w.cell? (ad.add j) = some u := by
      intro j u hj
      have hjl : j < ms.length * 2 := by have := (List.getElem?_eq_some_iff.1 hj).1; rwa [atCells_len] at this
      obtain ⟨b, o, e, _, hc⟩ := hin.some (by omega)
      cases e
      have e : (⟨b, o, none⟩ : Addr).add j = ⟨b, o + j, none⟩ := by unfold Addr.add; split <;> simp_all
      have ha := atCells_at ms (j / 2) (by omega)
      have hcc := hc (j / 2) (by omega)
      rw [e]
      rcases Nat.mod_two_eq_zero_or_one j with h | h
      · rw [show j = j / 2 * 2 by omega] at hj ⊢
        rw [ha.1] at hj
        rw [hcc.1]; exact hj
      · rw [show j = j / 2 * 2 + 1 by omega] at hj ⊢
        rw [ha.2] at hj
        rw [← Nat.add_assoc, hcc.2]; exact hj
    obtain ⟨v', w', hrun, h2, h3, _, h5⟩ := run_append_own_at (P := Try.prog) w base 28 ty 27 i0 _ 2 16 Try.underlying28 hi hz0 hz1 hz2 rfl (by omega) v zs.length _ h ad ms.length cap (atCells ms) (atCells_len ms) hnews (atCells_one ms) (by unfold maxLen; omega) (by omega) hbase
    refine ⟨v', w', hrun, ?_, turn_grown h3 h5⟩
    unfold AOwn
    rw [List.length_append, atCells_app]
    exact h2

/-- A row of clauses of the call's own, whose atoms lie in other blocks. -/
def GRow (w : World) (Q : Nat → Prop) (base : Nat) (v : Value) (l : List Cl) : Prop := ∃ xs, w.ownsRow base 35 3 v l.length xs ∧ RepC w (fun b => Q b ∧ b < w.heap.size ∧ ¬ OwnB v b) l xs
theorem GRow.nil (w : World) (Q : Nat → Prop) (base : Nat) : GRow w Q base (.slice none 0 0) [] := ⟨[], World.ownsRow_nil w base _ _, rfl⟩
theorem GRow.empty (w : World) (Q : Nat → Prop) : GRow (w.alloc (.cells #[] 35)) Q w.heap.size (.slice (some ⟨w.heap.size, 0, none⟩) 0 0) [] := ⟨[], World.ownsRow_made w #[] 0 (Nat.le_refl _) (Nat.zero_le _) rfl, rfl⟩
theorem COwn.g {w : World} {base : Nat} {v : Value} {l : List Cl} (h : COwn w base v l) : GRow w (fun b => base ≤ b ∧ b < w.heap.size) base v l := by
  obtain ⟨xs, h, hr⟩ := h
  exact ⟨xs, h, hr.keep (fun _ _ => rfl) (fun b hb => ⟨⟨hb.1, hb.2.1⟩, hb.2.1, hb.2.2⟩)⟩
theorem GRow.form {w : World} {Q : Nat → Prop} {base : Nat} {v : Value} {l : List Cl} (h : GRow w Q base v l) : ∃ x c, v = .slice x l.length c := by
  obtain ⟨xs, h, _⟩ := h
  obtain ⟨x, c, e, _⟩ := own_form h
  exact ⟨x, c, e⟩
theorem GRow.lt {w : World} {Q : Nat → Prop} {base : Nat} {v : Value} {l : List Cl} (h : GRow w Q base v l) : ∀ g, v.ownBlock = some g → base ≤ g ∧ g < w.heap.size := fun g hg => by
  obtain ⟨xs, h, _⟩ := h
  exact World.ownsRow.lt h g hg
theorem GRow.below {w w' : World} {Q : Nat → Prop} {base : Nat} {v : Value} {l : List Cl} (h : GRow w Q base v l) (hb : Below w.heap.size w w') : GRow w' Q base v l := by
  have hlt := h.lt
  obtain ⟨xs, h, hr⟩ := h
  refine ⟨xs, ⟨h.1, ?_⟩, hr.keep (fun b hb2 => hb.block b hb2.2.1) (fun b hb2 => ⟨hb2.1, Nat.lt_of_lt_of_le hb2.2.1 hb.size, hb2.2.2⟩)⟩
  rcases h.2 with hn | ⟨g, cap, cur, e, hb3, hh, rest⟩
  · exact .inl hn
  · exact .inr ⟨g, cap, cur, e, hb3, (hb.block g (hlt g (by rw [e]; rfl)).2).trans hh, rest⟩
theorem GRow.cls {w : World} {Q : Nat → Prop} {base : Nat} {x : Option Addr} {c : Nat} {l : List Cl} (h : GRow w Q base (.slice x l.length c) l) : ClsIn w (· < w.heap.size) l x c := by
  obtain ⟨xs, h, hr⟩ := h
  rcases h.2 with ⟨e, h0⟩ | ⟨g, cap, cur, e, hb, hh, hle, hm, _⟩
  · injection e with e1 _ e3
    subst e1 e3
    exact ⟨by omega, Nat.zero_le _, fun _ => rfl, fun hx => by omega⟩
  · injection e with e1 _ e3
    subst e1 e3
    refine ⟨hle, hm, (fun e => by cases e), fun _ => ⟨g, 0, rfl, lt_of_block hh, fun i hi => ?_⟩⟩
    obtain ⟨⟨a, cap', q1, q2⟩, q3, q4⟩ := hr.at i hi
    rw [Nat.zero_add]
    exact ⟨⟨a, cap', (World.ownsRow.cellAt h (i * 3) (by omega)).trans q1, q2.weak (fun b hb => hb.2.1)⟩, (World.ownsRow.cellAt h (i * 3 + 1) (by omega)).trans q3, (World.ownsRow.cellAt h (i * 3 + 2) (by omega)).trans q4⟩
/-- The clause at a place of the row. -/
theorem GRow.at {w : World} {Q : Nat → Prop} {base : Nat} {v : Value} {l : List Cl} (h : GRow w Q base v l) {i : Nat} (hi : i < l.length) : ∃ g c a k, v = .slice (some ⟨g, 0, none⟩) l.length c ∧ base ≤ g ∧ g < w.heap.size ∧
    w.cell? ⟨g, i * 3, none⟩ = some (.slice a (l.getD i cl0).1.length k) ∧ w.cell? ⟨g, i * 3 + 1, none⟩ = some (.int .i64 (l.getD i cl0).2.1) ∧ w.cell? ⟨g, i * 3 + 2, none⟩ = some (.int .i64 (l.getD i cl0).2.2) ∧ AtsIn w (fun b => Q b ∧ b < w.heap.size ∧ b ≠ g) (l.getD i cl0).1 a k ∧ w.frozen? ⟨g, i * 3, none⟩ = false := by
  obtain ⟨xs, h, hr⟩ := h
  have hf := fun g c (e : v = .slice (some ⟨g, 0, none⟩) l.length c) => World.ownsRow.frozenAt (by rw [e] at h; exact h : w.ownsRow base 35 3 (.slice (some ⟨g, 0, none⟩) l.length c) l.length xs)
  rcases h.2 with ⟨e, h0⟩ | ⟨g, cap, cur, e, hb, hh, hle, hm, _⟩
  · omega
  · subst e
    obtain ⟨⟨a, cap', q1, q2⟩, q3, q4⟩ := hr.at i hi
    exact ⟨g, cap, a, cap', rfl, hb, lt_of_block hh, (World.ownsRow.cellAt h (i * 3) (by omega)).trans q1, (World.ownsRow.cellAt h (i * 3 + 1) (by omega)).trans q3, (World.ownsRow.cellAt h (i * 3 + 2) (by omega)).trans q4, q2.weak (fun b hb2 => ⟨hb2.1, hb2.2.1, fun e => hb2.2.2 (by rw [e]; rfl)⟩), hf g cap rfl _⟩
/-- Clauses, put behind. -/
theorem GRow.add {w : World} {Q : Nat → Prop} {base : Nat} {v : Value} {l ms : List Cl} {a : Option Addr} {cap : Nat} (h : GRow w Q base v l) (hin : ClsIn w (fun b => Q b ∧ b < w.heap.size ∧ ¬ OwnB v b) ms a cap) (ty : TypeId) (hsz : l.length + ms.length ≤ 100000) (hbase : base ≤ w.heap.size) :
    ∃ v' w', (Builtin.append_ #[22, 22] ty #[v, .slice a ms.length cap]).run Try.prog w = .ok v' w' ∧ GRow w' Q base v' (l ++ ms) ∧ Turn (OwnB v) w (OwnB v') w' := by
  obtain ⟨i0, hi, hz0, hz1, hz2⟩ := info_parts infoClause
  cases a with
  | none =>
    have hc : cap = 0 := hin.2.2.1 rfl
    have hl : ms.length = 0 := by have := hin.1; omega
    obtain rfl := List.eq_nil_of_length_eq_zero hl
    obtain ⟨xs, h1, hr⟩ := h
    obtain ⟨x, c, rfl, hle⟩ := own_form h1
    exact ⟨_, w, append_nothing Try.underlying22 hi x _ c cap hle w, by rw [List.append_nil]; exact ⟨xs, h1, hr⟩, Turn.refl _ _⟩
  | some ad =>
    obtain ⟨xs, h, hr⟩ := h
    obtain ⟨ns, hns, hcs⟩ : ∃ ns, RepC w (fun b => Q b ∧ b < w.heap.size ∧ ¬ OwnB v b) ms ns ∧ ∀ j u, ns[j]? = some u → w.cell? (ad.add j) = some u := by
      rcases Nat.eq_zero_or_pos ms.length with h0 | h0
      · obtain rfl := List.eq_nil_of_length_eq_zero h0
        exact ⟨[], rfl, fun j u hj => by simp at hj⟩
      · obtain ⟨b, o, e, _, hf⟩ := hin.some h0
        cases e
        obtain ⟨ns, h1, h2⟩ := (show SrcC w _ b o ms from hf).rep
        refine ⟨ns, h1, fun j u hj => ?_⟩
        have e : (⟨b, o, none⟩ : Addr).add j = ⟨b, o + j, none⟩ := by unfold Addr.add; split <;> simp_all
        rw [e]; exact h2 j u hj
    obtain ⟨v', w', hrun, h2, h3, _, h5⟩ := run_append_own_at (P := Try.prog) w base 22 ty 35 i0 _ 3 40 Try.underlying22 hi hz0 hz1 hz2 rfl (by omega) v l.length _ h ad ms.length cap ns hns.length hcs hns.one (by unfold maxLen; omega) (by omega) hbase
    have ht := turn_grown h3 h5
    have hn : ∀ b, b < w.heap.size → ¬ OwnB v b → ¬ OwnB v' b := fun b hb hO hO2 => by
      rcases ht.2.2.2.2.2 b hO2 with h | h
      · exact hO h
      · omega
    have hP : ∀ b, (Q b ∧ b < w.heap.size ∧ ¬ OwnB v b) → w'.heap[b]? = w.heap[b]? := fun b hb => ht.2.2.2.2.1 b hb.2.1 hb.2.2
    have hQ : ∀ b, (Q b ∧ b < w.heap.size ∧ ¬ OwnB v b) → (Q b ∧ b < w'.heap.size ∧ ¬ OwnB v' b) := fun b hb => ⟨hb.1, Nat.lt_of_lt_of_le hb.2.1 ht.2.2.2.1, hn b hb.2.1 hb.2.2⟩
    exact ⟨v', w', hrun, ⟨xs ++ ns, by rw [List.length_append]; exact h2, (hr.keep hP hQ).app (hns.keep hP hQ)⟩, ht⟩
/-- One clause, put behind. -/
theorem GRow.push {w : World} {Q : Nat → Prop} {base : Nat} {v : Value} {l : List Cl} (h : GRow w Q base v l) (ty : TypeId) (c : Cl) {a : Option Addr} {cap : Nat} (hQw : Q w.heap.size) (hat : AtsIn w (fun b => Q b ∧ b < w.heap.size ∧ ¬ OwnB v b) c.1 a cap) (hsz : l.length ≤ 10000) (hbase : base ≤ w.heap.size) :
    ∃ g k w', (Builtin.append_ #[22, 22] ty #[v, .slice (some ⟨w.heap.size, 0, none⟩) 1 1]).run Try.prog (w.alloc (.cells #[.slice a c.1.length cap, .int .i64 c.2.1, .int .i64 c.2.2] 35)) = .ok (.slice (some ⟨g, 0, none⟩) (l.length + 1) k) w' ∧ GRow w' Q base (.slice (some ⟨g, 0, none⟩) (l.length + 1) k) (l ++ [c]) ∧ Turn (OwnB v) w (OwnB (.slice (some ⟨g, 0, none⟩) (l.length + 1) k)) w' := by
  have hlt := h.lt
  have hb := (Below.refl w.heap.size w).alloc (Nat.le_refl _) (.cells #[.slice a c.1.length cap, .int .i64 c.2.1, .int .i64 c.2.2] 35)
  have hnew := heap_new w (.cells #[.slice a c.1.length cap, .int .i64 c.2.1, .int .i64 c.2.2] 35)
  have hcl : ClsIn (w.alloc (.cells #[.slice a c.1.length cap, .int .i64 c.2.1, .int .i64 c.2.2] 35)) (fun b => Q b ∧ b < (w.alloc (.cells #[.slice a c.1.length cap, .int .i64 c.2.1, .int .i64 c.2.2] 35)).heap.size ∧ ¬ OwnB v b) [c] (some ⟨w.heap.size, 0, none⟩) 1 := by
    refine ⟨Nat.le_refl _, by unfold maxLen; omega, (fun e => by cases e), fun _ => ⟨w.heap.size, 0, rfl, ⟨hQw, lt_of_block hnew, fun hO => by have := (hlt _ hO).2; omega⟩, fun i hi => ?_⟩⟩
    have hi0 : i = 0 := by simp at hi; exact hi
    subst hi0
    exact ⟨⟨a, cap, cell_at hnew 0, (hat.keep (fun b hb2 => hb.block b hb2.2.1)).weak (fun b hb2 => ⟨hb2.1, Nat.lt_of_lt_of_le hb2.2.1 hb.size, hb2.2.2⟩)⟩, cell_at hnew 1, cell_at hnew 2⟩
  obtain ⟨v', w', hrun, h2, ht⟩ := (h.below hb).add hcl ty (by simp; omega) (Nat.le_trans hbase hb.size)
  obtain ⟨x, k, rfl⟩ := h2.form
  obtain ⟨xs, h2a, h2b⟩ := h2
  rw [List.length_append, List.length_singleton] at h2a hrun ht h2b
  obtain ⟨g, cap', e⟩ := ownsRow_succ h2a
  cases e
  refine ⟨g, k, w', hrun, ⟨xs, by rw [List.length_append]; exact h2a, h2b⟩, ht.1.trans hb.os, ht.2.1.trans hb.tape, ht.2.2.1.trans hb.output, Nat.le_trans hb.size ht.2.2.2.1, fun b hb2 hO => (ht.2.2.2.2.1 b (Nat.lt_of_lt_of_le hb2 hb.size) hO).trans (hb.block b hb2), fun b hO => ?_⟩
  rcases ht.2.2.2.2.2 b hO with h | h
  · exact .inl h
  · exact .inr (Nat.le_trans hb.size h)
theorem RepC.set {w : World} {P : Nat → Prop} : ∀ {l : List Cl} {xs : List Value}, RepC w P l xs → ∀ (i : Nat), i < l.length → ∀ {a : Option Addr} {k : Nat}, AtsIn w P (l.getD i cl0).1 a k → RepC w P l (xs.set (i * 3) (.slice a (l.getD i cl0).1.length k))
  | [], _, _, i, h, _, _ => by simp at h
  | c :: r, xs, h, 0, _, a, k => by
    intro hat
    obtain ⟨a0, cap, xs', rfl, hs, hr⟩ := h
    exact ⟨a, k, xs', rfl, hat, hr⟩
  | c :: r, xs, h, i + 1, hi, a, k => by
    intro hat
    obtain ⟨a0, cap, xs', rfl, hs, hr⟩ := h
    refine ⟨a0, cap, xs'.set (i * 3) (.slice a (r.getD i cl0).1.length k), ?_, hs, hr.set i (by simpa using hi) hat⟩
    rw [show (i + 1) * 3 = i * 3 + 1 + 1 + 1 by omega]
    rfl
/-- A row of atoms is set in a clause of the row. -/
theorem GRow.setFrom {w : World} {Q : Nat → Prop} {base g n c : Nat} {l : List Cl} (h : GRow w Q base (.slice (some ⟨g, 0, none⟩) n c) l) (hn : l.length = n) {i : Nat} (hi : i < l.length) {a : Option Addr} {k : Nat} (hat : AtsIn w (fun b => Q b ∧ b < w.heap.size ∧ b ≠ g) (l.getD i cl0).1 a k) :
    GRow (w.setCell ⟨g, i * 3, none⟩ (.slice a (l.getD i cl0).1.length k)) Q base (.slice (some ⟨g, 0, none⟩) n c) l := by
  subst hn
  obtain ⟨xs, h, hr⟩ := h
  have hP : ∀ b, (Q b ∧ b < w.heap.size ∧ ¬ OwnB (.slice (some ⟨g, 0, none⟩) l.length c) b) → (w.setCell ⟨g, i * 3, none⟩ (.slice a (l.getD i cl0).1.length k)).heap[b]? = w.heap[b]? := fun b hb => Below.heap_setCell _ _ _ _ (fun e : b = g => hb.2.2 (by rw [e]; rfl))
  have hz : (w.setCell ⟨g, i * 3, none⟩ (.slice a (l.getD i cl0).1.length k)).heap.size = w.heap.size := by simp
  refine ⟨xs.set (i * 3) (.slice a (l.getD i cl0).1.length k), (World.ownsRow.stored h (i * 3) _).1, ?_⟩
  rw [hz]
  have h2 : RepC w (fun b => Q b ∧ b < w.heap.size ∧ ¬ OwnB (.slice (some ⟨g, 0, none⟩) l.length c) b) l (xs.set (i * 3) (.slice a (l.getD i cl0).1.length k)) := hr.set i hi (hat.weak (fun b hb => ⟨hb.1, hb.2.1, fun hO => hb.2.2 (by unfold OwnB Value.ownBlock at hO; injection hO with hO; exact hO.symm)⟩))
  exact h2.keep hP (fun b hb => hb)
theorem GRow.weak {w : World} {Q R : Nat → Prop} {base : Nat} {v : Value} {l : List Cl} (h : GRow w Q base v l) (hR : ∀ b, Q b → R b) : GRow w R base v l := by
  obtain ⟨xs, h, hr⟩ := h
  exact ⟨xs, h, hr.keep (fun _ _ => rfl) (fun b hb => ⟨hR b hb.1, hb.2⟩)⟩
/-- Another block is written. -/
theorem GRow.other {w w' : World} {Q : Nat → Prop} {base X : Nat} {v : Value} {l : List Cl} (h : GRow w Q base v l) (hz : w.heap.size ≤ w'.heap.size) (hb : ∀ b, b < w.heap.size → b ≠ X → w'.heap[b]? = w.heap[b]?) (hQ : ¬ Q X) (hO : ¬ OwnB v X) : GRow w' Q base v l := by
  have hlt := h.lt
  obtain ⟨xs, h, hr⟩ := h
  refine ⟨xs, ⟨h.1, ?_⟩, hr.keep (fun b hb2 => hb b hb2.2.1 (fun e => hQ (by rw [← e]; exact hb2.1))) (fun b hb2 => ⟨hb2.1, Nat.lt_of_lt_of_le hb2.2.1 hz, hb2.2.2⟩)⟩
  rcases h.2 with hn | ⟨g, cap, cur, e, hb3, hh, rest⟩
  · exact .inl hn
  · exact .inr ⟨g, cap, cur, e, hb3, (hb g (hlt g (by rw [e]; rfl)).2 (fun e2 => hO (by rw [← e2, e]; rfl))).trans hh, rest⟩
end Go.Proofs.Ytglggigndhbpcaa
/- The clauses of a row of the call's own, with what is known of where they lie. No condition but those that stand in the statement. -/
namespace Go.Proofs.Ytglggigndhbpcaa
open Go.RowKit

/-- The row's clauses, with what is known of where they lie. -/
theorem GRow.clsQ {w : World} {Q : Nat → Prop} {base : Nat} {x : Option Addr} {c : Nat} {l : List Cl} (h : GRow w Q base (.slice x l.length c) l) : ClsIn w (fun b => b < w.heap.size ∧ (base ≤ b ∨ Q b)) l x c := by
  obtain ⟨xs, h, hr⟩ := h
  rcases h.2 with ⟨e, h0⟩ | ⟨g, cap, cur, e, hb, hh, hle, hm, _⟩
  · injection e with e1 _ e3
    subst e1 e3
    exact ⟨by omega, Nat.zero_le _, fun _ => rfl, fun hx => by omega⟩
  · injection e with e1 _ e3
    subst e1 e3
    refine ⟨hle, hm, (fun e => by cases e), fun _ => ⟨g, 0, rfl, ⟨lt_of_block hh, .inl hb⟩, fun i hi => ?_⟩⟩
    obtain ⟨⟨a, cap', q1, q2⟩, q3, q4⟩ := hr.at i hi
    rw [Nat.zero_add]
    exact ⟨⟨a, cap', (World.ownsRow.cellAt h (i * 3) (by omega)).trans q1, q2.weak (fun b hb => ⟨hb.2.1, .inr hb.1⟩)⟩, (World.ownsRow.cellAt h (i * 3 + 1) (by omega)).trans q3, (World.ownsRow.cellAt h (i * 3 + 2) (by omega)).trans q4⟩
end Go.Proofs.Ytglggigndhbpcaa
/- The contracts of the program's copies of numbers, atoms and clauses. Condition: they lie in memory; at most 1000. -/
namespace Go.Proofs.Ytglggigndhbpcaa
open Go.RowKit

theorem AOwn.empty (w : World) : AOwn (w.alloc (.cells #[] 27)) w.heap.size (.slice (some ⟨w.heap.size, 0, none⟩) 0 0) [] := World.ownsRow_made w #[] 0 (Nat.le_refl _) (Nat.zero_le _) rfl
theorem run_eql_ats (a : Option Addr) (n c : Nat) (w : World) : (binOp .eql 28 (.slice a n c) (.slice none 0 0)).run Try.prog w = .ok (.bool a.isNone) w := Lib.run_eql_slice_nil w _ _ a n c 0 0 Try.underlying28
theorem run_eql_cls (a : Option Addr) (n c : Nat) (w : World) : (binOp .eql 22 (.slice a n c) (.slice none 0 0)).run Try.prog w = .ok (.bool a.isNone) w := Lib.run_eql_slice_nil w _ _ a n c 0 0 Try.underlying22
theorem turn_empty {w w' : World} {t : TypeId} {v : Value} (h : Turn (OwnB (.slice (some ⟨w.heap.size, 0, none⟩) 0 0)) (w.alloc (.cells #[] t)) (OwnB v) w') : Below w.heap.size w w' :=
  ((Below.refl _ _).alloc (Nat.le_refl _) _).trans (h.low (by simp) (fun b hO => by unfold OwnB Value.ownBlock at hO; injection hO with hO; exact Nat.le_of_eq hO))
theorem none_nil {n cap : Nat} (h1 : n ≤ cap) (h2 : cap = 0) : n = 0 := by omega
set_option maxRecDepth 100000 in
set_option maxHeartbeats 1000000 in
theorem sclint_any (m : List Int) (a : Option Addr) (cap B : Nat) (w : World) (h2 : m.length ≤ 1000) (hin : IntsIn w (· < B) m a cap) (hB : B ≤ w.heap.size) : Calls Try.prog 44 #[.slice a m.length cap] w (CopyPost m w) := by
  cases a with
  | none =>
    have h0 : m.length = 0 := none_nil hin.1 (hin.2.2.1 rfl)
    obtain rfl := List.eq_nil_of_length_eq_zero h0
    have heq := run_eql_ints none 0 cap
    simp only [Option.isNone] at heq
    clear hin h0 h2
    go_enter Try.func44, Try.ntmps44
    go_wp2_with fail
    go_ret
    exact ⟨none, 0, rfl, IOwn.nil _ _, Below.refl _ _⟩
  | some ad =>
    have hin2 : IntsIn (w.alloc (.cells #[] 3)) (· < B) m (some ad) cap := hin.keep (fun c hc => heap_old _ _ (Nat.lt_of_lt_of_le hc hB))
    obtain ⟨v', w', hrun, g1, g2⟩ := (IOwn.empty w).add hin2 23 (by simp; omega) (by simp)
    rw [List.nil_append] at g1
    obtain ⟨x', c', rfl⟩ := g1.form
    have HRUN := Lib.hid hrun
    have HE : Hid (CopyPost m w (.returned (.slice x' m.length c')) w') := Lib.hid ⟨x', c', rfl, g1, turn_empty g2⟩
    clear hrun g1 g2 hin2 hin
    have heq := run_eql_ints (some ad) m.length cap
    simp only [Option.isNone] at heq
    go_enter Try.func44, Try.ntmps44
    go_wp2_with (at_builtin; refine wpList_append_run (by rfl) _ _ _ (by rfl) (by rfl) (by rfl) HRUN.out ?_)
    go_ret
    exact HE.out
/-- What a copy of atoms answers. -/
def CaPost (l : List At) (w : World) (e : Ending) (w' : World) : Prop := ∃ x c, e = .returned (.slice x l.length c) ∧ AOwn w' w.heap.size (.slice x l.length c) l ∧ Below w.heap.size w w'
set_option maxRecDepth 100000 in
set_option maxHeartbeats 1000000 in
theorem sclat_any (m : List At) (a : Option Addr) (cap B : Nat) (w : World) (h2 : m.length ≤ 1000) (hin : AtsIn w (· < B) m a cap) (hB : B ≤ w.heap.size) : Calls Try.prog 46 #[.slice a m.length cap] w (CaPost m w) := by
  cases a with
  | none =>
    have h0 : m.length = 0 := none_nil hin.1 (hin.2.2.1 rfl)
    obtain rfl := List.eq_nil_of_length_eq_zero h0
    have heq := run_eql_ats none 0 cap
    simp only [Option.isNone] at heq
    clear hin h0 h2
    go_enter Try.func46, Try.ntmps46
    go_wp2_with fail
    go_ret
    exact ⟨none, 0, rfl, AOwn.nil _ _, Below.refl _ _⟩
  | some ad =>
    have hin2 : AtsIn (w.alloc (.cells #[] 27)) (· < B) m (some ad) cap := hin.keep (fun c hc => heap_old _ _ (Nat.lt_of_lt_of_le hc hB))
    obtain ⟨v', w', hrun, g1, g2⟩ := (AOwn.empty w).add hin2 28 (by simp; omega) (by simp)
    rw [List.nil_append] at g1
    obtain ⟨x', c', rfl⟩ := g1.form
    have HRUN := Lib.hid hrun
    have HE : Hid (CaPost m w (.returned (.slice x' m.length c')) w') := Lib.hid ⟨x', c', rfl, g1, turn_empty g2⟩
    clear hrun g1 g2 hin2 hin
    have heq := run_eql_ats (some ad) m.length cap
    simp only [Option.isNone] at heq
    go_enter Try.func46, Try.ntmps46
    go_wp2_with (at_builtin; refine wpList_append_run (by rfl) _ _ _ (by rfl) (by rfl) (by rfl) HRUN.out ?_)
    go_ret
    exact HE.out
/-- What a copy of clauses answers. -/
def CcPost (R : Nat → Prop) (l : List Cl) (w : World) (e : Ending) (w' : World) : Prop := ∃ x c, e = .returned (.slice x l.length c) ∧ GRow w' R w.heap.size (.slice x l.length c) l ∧ Below w.heap.size w w'
set_option maxRecDepth 100000 in
set_option maxHeartbeats 1000000 in
theorem sclcl_any (R : Nat → Prop) (m : List Cl) (a : Option Addr) (cap : Nat) (w : World) (h2 : m.length ≤ 1000) (hin : ClsIn w (fun b => b < w.heap.size ∧ R b) m a cap) : Calls Try.prog 45 #[.slice a m.length cap] w (CcPost R m w) := by
  cases a with
  | none =>
    have h0 : m.length = 0 := none_nil hin.1 (hin.2.2.1 rfl)
    obtain rfl := List.eq_nil_of_length_eq_zero h0
    have heq := run_eql_cls none 0 cap
    simp only [Option.isNone] at heq
    clear hin h0 h2
    go_enter Try.func45, Try.ntmps45
    go_wp2_with fail
    go_ret
    exact ⟨none, 0, rfl, GRow.nil _ _ _, Below.refl _ _⟩
  | some ad =>
    have hin2 : ClsIn (w.alloc (.cells #[] 35)) (fun b => b < w.heap.size ∧ R b) m (some ad) cap := hin.keep (fun c hc => heap_old _ _ hc.1)
    obtain ⟨v', w', hrun, g1, g2⟩ := (GRow.empty w R).add (hin2.weak (fun b hb => ⟨hb.2, by have := hb.1; simp; omega, fun hO => by unfold OwnB Value.ownBlock at hO; injection hO with hO; have hO : w.heap.size = b := hO; have := hb.1; omega⟩)) 22 (by simp; omega) (by simp)
    rw [List.nil_append] at g1
    obtain ⟨x', c', rfl⟩ := g1.form
    have HRUN := Lib.hid hrun
    have HE : Hid (CcPost R m w (.returned (.slice x' m.length c')) w') := Lib.hid ⟨x', c', rfl, g1, turn_empty g2⟩
    clear hrun g1 g2 hin2 hin
    have heq := run_eql_cls (some ad) m.length cap
    simp only [Option.isNone] at heq
    go_enter Try.func45, Try.ntmps45
    go_wp2_with (at_builtin; refine wpList_append_run (by rfl) _ _ _ (by rfl) (by rfl) (by rfl) HRUN.out ?_)
    go_ret
    exact HE.out
end Go.Proofs.Ytglggigndhbpcaa
/- The contract of the law's maker of a clause from a variable to another one, and how one, two or three such clauses lie in a new row. No condition but those that stand in each statement. -/
namespace Go.Proofs.Ytglggigndhbpcaa
open Go.RowKit

/-- The clause that is made. -/
def arC (a b off : Int) : Cl := ([(a, 0)], (b, off))
/-- What arrow answers. -/
def ArPost (a b off : Int) (w : World) (e : Ending) (w' : World) : Prop :=
  ∃ g, e = .returned (.agg #[.slice (some ⟨g, 0, none⟩) 1 1, .int .i64 b, .int .i64 off]) ∧ AtsIn w' (fun x => w.heap.size ≤ x ∧ x < w'.heap.size) [(a, 0)] (some ⟨g, 0, none⟩) 1 ∧ Below w.heap.size w w'
theorem one_at {w : World} {g : Nat} {a b : Int} {P : Nat → Prop} {t : TypeId} (h : w.heap[g]? = some (.cells #[.int .i64 a, .int .i64 b] t (0, 0))) (hP : P g) : AtsIn w P [(a, b)] (some ⟨g, 0, none⟩) 1 :=
  ⟨Nat.le_refl _, by unfold maxLen; omega, (fun e => by cases e), fun _ => ⟨g, 0, rfl, hP, fun i hi => by
    have hi0 : i = 0 := by simp at hi; exact hi
    subst hi0
    exact ⟨cell_at h 0, cell_at h 1⟩⟩⟩
set_option maxRecDepth 100000 in
theorem arrow_any (a b off : Int) (w : World) : Calls Try.prog 17 #[.int .i64 a, .int .i64 b, .int .i64 off] w (ArPost a b off w) := by
  have hn : ((w.alloc (.cells #[.slice (some ⟨w.heap.size + 1, 0, none⟩) 1 1, .int .i64 b, .int .i64 off] 35)).alloc (.cells #[.int .i64 a, .int .i64 0] 27)).heap[w.heap.size + 1]? = some (.cells #[.int .i64 a, .int .i64 0] 27 (0, 0)) := by
    have := heap_new (w.alloc (.cells #[.slice (some ⟨w.heap.size + 1, 0, none⟩) 1 1, .int .i64 b, .int .i64 off] 35)) (.cells #[.int .i64 a, .int .i64 0] 27)
    rwa [World.size_alloc] at this
  have HE : Hid (ArPost a b off w (.returned (.agg #[.slice (some ⟨w.heap.size + 1, 0, none⟩) 1 1, .int .i64 b, .int .i64 off])) ((w.alloc (.cells #[.slice (some ⟨w.heap.size + 1, 0, none⟩) 1 1, .int .i64 b, .int .i64 off] 35)).alloc (.cells #[.int .i64 a, .int .i64 0] 27))) :=
    Lib.hid ⟨_, rfl, one_at hn ⟨by omega, by simp⟩, ((Below.refl _ _).alloc (Nat.le_refl _) _).alloc (by simp) _⟩
  clear hn
  go_enter Try.func17, Try.ntmps17
  go_wp2_with fail
  refine bodyPost_ret (v := .agg #[.slice (some ⟨w.heap.size + 1, 0, none⟩) 1 1, .int .i64 b, .int .i64 off]) (by simp [results, Try.f17, go_sem]) rfl ?_
  exact HE.out
/-- One clause in a new row. -/
theorem row_one {W : World} {P : Nat → Prop} {a b off : Int} {x : Option Addr} {c : Nat} (h : AtsIn W P [(a, 0)] x c) (hP : ∀ b, P b → b < W.heap.size) :
    ClsIn (W.alloc (.cells #[.slice x 1 c, .int .i64 b, .int .i64 off] 35)) (fun b => b = W.heap.size ∨ P b) [arC a b off] (some ⟨W.heap.size, 0, none⟩) 1 := by
  have hn := heap_new W (.cells #[.slice x 1 c, .int .i64 b, .int .i64 off] 35)
  refine ⟨Nat.le_refl _, by unfold maxLen; omega, (fun e => by cases e), fun _ => ⟨W.heap.size, 0, rfl, .inl rfl, fun i hi => ?_⟩⟩
  have hi0 : i = 0 := by simp at hi; exact hi
  subst hi0
  exact ⟨⟨_, _, cell_at hn 0, (h.keep (fun b hb => heap_old _ _ (hP b hb))).weak (fun b hb => .inr hb)⟩, cell_at hn 1, cell_at hn 2⟩
/-- Two clauses in a new row. -/
theorem row_two {W : World} {P : Nat → Prop} {a b off a2 b2 off2 : Int} {x y : Option Addr} {c d : Nat} (h : AtsIn W P [(a, 0)] x c) (h2 : AtsIn W P [(a2, 0)] y d) (hP : ∀ b, P b → b < W.heap.size) :
    ClsIn (W.alloc (.cells #[.slice x 1 c, .int .i64 b, .int .i64 off, .slice y 1 d, .int .i64 b2, .int .i64 off2] 35)) (fun b => b = W.heap.size ∨ P b) [arC a b off, arC a2 b2 off2] (some ⟨W.heap.size, 0, none⟩) 2 := by
  have hn := heap_new W (.cells #[.slice x 1 c, .int .i64 b, .int .i64 off, .slice y 1 d, .int .i64 b2, .int .i64 off2] 35)
  refine ⟨Nat.le_refl _, by unfold maxLen; omega, (fun e => by cases e), fun _ => ⟨W.heap.size, 0, rfl, .inl rfl, fun i hi => ?_⟩⟩
  match i, hi with
  | 0, _ => exact ⟨⟨_, _, cell_at hn 0, (h.keep (fun b hb => heap_old _ _ (hP b hb))).weak (fun b hb => .inr hb)⟩, cell_at hn 1, cell_at hn 2⟩
  | 1, _ => exact ⟨⟨_, _, cell_at hn 3, (h2.keep (fun b hb => heap_old _ _ (hP b hb))).weak (fun b hb => .inr hb)⟩, cell_at hn 4, cell_at hn 5⟩
end Go.Proofs.Ytglggigndhbpcaa
