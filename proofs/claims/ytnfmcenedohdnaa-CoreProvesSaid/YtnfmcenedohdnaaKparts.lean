/- Parts of a row of numbers, one behind the other, in a new row. No condition but those that stand in each statement. -/
import Derived.Test.YtnfmcenedohdnaaHrow2
import Derived.Test.YtnfmcenedohdnaaRowL
namespace Go.Proofs.Ytnfmcenedohdnaa
open Go.RowKit

/-- Numbers lie from a cell on. -/
def SrcI (w : World) (g o : Nat) (l : List Int) : Prop := ∀ j, j < l.length → w.cell? ⟨g, o + j, none⟩ = some (.int .i64 (l.getD j 0))
theorem SrcI.keep {w w' : World} {g o : Nat} {l : List Int} (h : SrcI w g o l) (hg : w'.heap[g]? = w.heap[g]?) : SrcI w' g o l := fun j hj => (World.cell?_of_block (w := w) (a := ⟨g, o + j, none⟩) hg).trans (h j hj)
theorem SrcI.take {w : World} {g o : Nat} {l : List Int} (h : SrcI w g o l) (k : Nat) : SrcI w g o (l.take k) := fun j hj => by
  rw [List.length_take] at hj
  have e : (l.take k).getD j 0 = l.getD j 0 := by rw [List.getD_eq_getElem?_getD, List.getD_eq_getElem?_getD, List.getElem?_take, if_pos (by omega)]
  rw [e]
  exact h j (by omega)
theorem SrcI.drop {w : World} {g o : Nat} {l : List Int} (h : SrcI w g o l) (k : Nat) : SrcI w g (o + k) (l.drop k) := fun j hj => by
  rw [List.length_drop] at hj
  have e : (l.drop k).getD j 0 = l.getD (k + j) 0 := by rw [List.getD_eq_getElem?_getD, List.getD_eq_getElem?_getD, List.getElem?_drop]
  have := h (k + j) (by omega)
  rw [e, show o + k + j = o + (k + j) by omega]
  exact this
theorem IOwn.src {w : World} {base : Nat} {x : Option Addr} {n c : Nat} {zs : List Int} (h : IOwn w base (.slice x n c) zs) (hl : 0 < zs.length) : ∃ g, x = some ⟨g, 0, none⟩ ∧ g < w.heap.size ∧ SrcI w g 0 zs ∧ zs.length ≤ c ∧ c ≤ maxLen := by
  have hc := fun j (hj : j < zs.length) => h.at hj
  rcases h.2 with ⟨_, h0⟩ | ⟨g, cap, cur, e, hb, hh, hle, hm, _⟩
  · omega
  · injection e with e1 e2 e3
    subst e1 e3
    refine ⟨g, rfl, lt_of_block hh, fun j hj => ?_, hle, hm⟩
    obtain ⟨g', c', e', _, _, hcell⟩ := hc j hj
    injection e' with e1' _ _
    injection e1' with e1'
    injection e1' with e1' _
    subst e1'
    rw [Nat.zero_add]
    exact hcell
/-- THE APPEND of many numbers. -/
theorem IOwn.many {w : World} {base : Nat} {v : Value} {zs ms : List Int} (h : IOwn w base v zs) (ty : TypeId) {g o n c : Nat} (hs : SrcI w g o ms) (hn : ms.length = n) (hsz : zs.length + ms.length ≤ 1000000) (hbase : base ≤ w.heap.size) :
    ∃ v' w', (Builtin.append_ #[23, 23] ty #[v, .slice (some ⟨g, o, none⟩) n c]).run Try.prog w = .ok v' w' ∧ IOwn w' base v' (zs ++ ms) ∧ Turn (OwnB v) w (OwnB v') w' := by
  subst hn
  obtain ⟨i0, hi, hz0, hz1, hz2⟩ := info_parts infoInt
  obtain ⟨v', w', hrun, h2, h3, _, h5⟩ := run_append_own_at (P := Try.prog) w base 23 ty 3 i0 _ 1 8 Try.underlying23 hi hz0 hz1 hz2 rfl (by omega) v zs.length _ h ⟨g, o, none⟩ ms.length c (ms.map (Value.int .i64)) (by simp) (fun j u hj => by
      have e : (⟨g, o, none⟩ : Addr).add j = ⟨g, o + j, none⟩ := by unfold Addr.add; split <;> simp_all
      have hjl : j < ms.length := by
        rcases Nat.lt_or_ge j ms.length with h | h
        · exact h
        · rw [List.getElem?_eq_none (by simpa using h)] at hj; cases hj
      rw [e, hs j hjl]
      rw [List.getElem?_map, List.getElem?_eq_getElem hjl] at hj
      rw [List.getD_eq_getElem?_getD, List.getElem?_eq_getElem hjl]
      exact hj) (by simp [Value.oneCell']) (by unfold maxLen; omega) (by omega) hbase
  refine ⟨v', w', hrun, by unfold IOwn; rw [List.length_append, List.map_append]; exact h2, h3.os, h3.tape, h3.output, h3.size, fun b hb hn => h3.block b hb (fun e => hn e.symm), fun b hO => ?_⟩
  rcases h5 with e | e
  · exact .inl (by unfold OwnB at hO ⊢; rw [← e]; exact hO)
  · unfold OwnB at hO; rw [e] at hO; injection hO with hO; exact .inr (by omega)
theorem two_ints {w W : World} {g n1 n2 n3 c1 c2 o1 : Nat} {a2 : Option Addr} {p q : List Int} (ty : TypeId) (hg : g < w.heap.size) (hb : Below w.heap.size w W) (h1 : SrcI w g o1 p) (h2 : ∃ o2, a2 = some ⟨g, o2, none⟩ ∧ SrcI w g o2 q) (l1 : p.length = n1) (l2 : q.length = n2) (l3 : n1 + n2 = n3) (hsz : n3 ≤ 1000) :
    ∃ v1 W1 x c W2, Hid ((Builtin.append_ #[23, 23] ty #[.slice none 0 0, .slice (some ⟨g, o1, none⟩) n1 c1]).run Try.prog W = .ok v1 W1) ∧ Hid ((Builtin.append_ #[23, 23] ty #[v1, .slice a2 n2 c2]).run Try.prog W1 = .ok (.slice x n3 c) W2) ∧
      Hid (IntsIn W2 (· < W2.heap.size) (p ++ q) x c) ∧ Hid (Below w.heap.size w W2) := by
  obtain ⟨o2, rfl, h2⟩ := h2
  have hz := hb.size
  obtain ⟨v1, W1, r1, k1, t1⟩ := (IOwn.nil W W.heap.size).many ty (g := g) (o := o1) (c := c1) (h1.keep (hb.block g hg)) l1 (by simp; omega) (Nat.le_refl _)
  rw [List.nil_append] at k1
  have b1 : Below w.heap.size w W1 := hb.trans (t1.low hz (fun b hO => by cases hO))
  have hlt := k1.lt
  obtain ⟨v2, W2, r2, k2, t2⟩ := k1.many ty (g := g) (o := o2) (c := c2) (h2.keep (b1.block g hg)) l2 (by omega) (by have := t1.2.2.2.1; omega)
  obtain ⟨x, c, rfl⟩ := k2.form
  have hz1 := t1.2.2.2.1
  have hl3 : (p ++ q).length = n3 := by rw [List.length_append]; omega
  exact ⟨v1, W1, x, c, W2, Lib.hid r1, Lib.hid (by rw [← hl3]; exact r2), Lib.hid k2.ints, Lib.hid (b1.trans (t2.low (by omega) (fun b hO => by have := (hlt b hO).1; omega)))⟩
end Go.Proofs.Ytnfmcenedohdnaa
