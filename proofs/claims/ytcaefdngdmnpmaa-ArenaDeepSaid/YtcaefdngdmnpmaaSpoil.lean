/- An arena with a node more, and with one field of a node turned: what lies in memory. No condition but those that stand in each statement. -/
import Derived.Test.YtcaefdngdmnpmaaMarena
import Derived.Test.YtcaefdngdmnpmaaAwake4
namespace Go.Proofs.Ytcaefdngdmnpmaa
open Go.RowKit

theorem cell_set {w : World} {g k : Nat} {cur : Array Value} {t : TypeId} (hh : w.heap[g]? = some (.cells cur t (0, 0))) (hk : k < cur.size) (v : Value) (j : Nat) : (w.setCell ⟨g, k, none⟩ v).cell? ⟨g, j, none⟩ = if j = k then some v else w.cell? ⟨g, j, none⟩ := by
  rw [cell_at (heap_setCell_same w g k cur t v hh), cell_at hh]
  by_cases h : j = k
  · subst h
    rw [if_pos rfl, Array.getElem?_setIfInBounds_self_of_lt hk]
  · rw [if_neg h, Array.getElem?_setIfInBounds_ne (Ne.symm h)]
/-- A node with one field turned. -/
def turn (f : Nat) (z : Int) (x : Nd) : Nd := if f = 0 then { x with k := z } else if f = 1 then { x with n := z } else if f = 2 then { x with a := z } else { x with b := z }
theorem NsAt.turn {w : World} {g q f : Nat} {cur : Array Value} {t : TypeId} {ns : List Nd} {x : Nd} (hh : w.heap[g]? = some (.cells cur t (0, 0))) (h : NsAt w ns g 0) (hx : ns[q]? = some x) (hf : f ≤ 3) (z : Int) : NsAt (w.setCell ⟨g, q * 4 + f, none⟩ (.int .i64 z)) (ns.set q (turn f z x)) g 0 := by
  have hq := (List.getElem?_eq_some_iff.1 hx).1
  have hk : q * 4 + f < cur.size := by
    obtain ⟨h0, h1, h2, h3⟩ := h q x hx
    simp only [Nat.zero_add] at h0 h1 h2 h3
    rw [cell_at hh] at h3
    have := (Array.getElem?_eq_some_iff.1 h3).1
    omega
  intro i u hu
  simp only [Nat.zero_add]
  rw [cell_set hh hk, cell_set hh hk, cell_set hh hk, cell_set hh hk]
  by_cases hi : i = q
  · subst hi
    rw [List.getElem?_set_self hq] at hu
    injection hu with hu
    subst hu
    obtain ⟨h0, h1, h2, h3⟩ := h i x hx
    simp only [Nat.zero_add] at h0 h1 h2 h3
    match f, hf with
    | 0, _ => exact ⟨by rw [if_pos (Nat.add_zero _).symm]; rfl, by rw [if_neg (by omega)]; exact h1, by rw [if_neg (by omega)]; exact h2, by rw [if_neg (by omega)]; exact h3⟩
    | 1, _ => exact ⟨by rw [if_neg (by omega)]; exact h0, by rw [if_pos rfl]; rfl, by rw [if_neg (by omega)]; exact h2, by rw [if_neg (by omega)]; exact h3⟩
    | 2, _ => exact ⟨by rw [if_neg (by omega)]; exact h0, by rw [if_neg (by omega)]; exact h1, by rw [if_pos rfl]; rfl, by rw [if_neg (by omega)]; exact h3⟩
    | 3, _ => exact ⟨by rw [if_neg (by omega)]; exact h0, by rw [if_neg (by omega)]; exact h1, by rw [if_neg (by omega)]; exact h2, by rw [if_pos rfl]; rfl⟩
  · rw [List.getElem?_set_ne (Ne.symm hi)] at hu
    obtain ⟨h0, h1, h2, h3⟩ := h i u hu
    simp only [Nat.zero_add] at h0 h1 h2 h3
    exact ⟨by rw [if_neg (by omega)]; exact h0, by rw [if_neg (by omega)]; exact h1, by rw [if_neg (by omega)]; exact h2, by rw [if_neg (by omega)]; exact h3⟩
/-- An arena in a variable of its own: the nodes in a row of the call's own. -/
structure SpAt (w : World) (A g c : Nat) (M : List Nd) (W : World) : Prop where
  a : W.heap[A]? = some (.cells #[.slice (some ⟨g, 0, none⟩) M.length c] 24 (0, 0))
  own : NOwn W w.heap.size (.slice (some ⟨g, 0, none⟩) M.length c) M
  lA : w.heap.size ≤ A
  hb : Below w.heap.size w W
section
variable {w : World} {A g c : Nat} {M : List Nd} {W : World}
theorem SpAt.row (h : SpAt w A g c M W) : ∃ cur, W.heap[g]? = some (.cells cur 37 (0, 0)) ∧ NsAt W M g 0 ∧ M.length ≤ c ∧ c ≤ maxLen ∧ A ≠ g ∧ w.heap.size ≤ g := by
  rcases h.own.2 with ⟨hv, _⟩ | ⟨g', cap, cur, hv, hb, hh, hle, hm, _⟩
  · cases hv
  · injection hv with hv1 _ hv3
    injection hv1 with hv1
    injection hv1 with hv1
    subst hv1 hv3
    have hne : A ≠ g := by
      rintro rfl
      have := h.a.symm.trans hh
      simp at this
    refine ⟨cur, hh, fun i x hx => ?_, hle, hm, hne, hb⟩
    have hi : i < M.length := (List.getElem?_eq_some_iff.1 hx).1
    obtain ⟨e0, e1, e2, e3⟩ := ncs_at M i x hx
    refine ⟨?_, ?_, ?_, ?_⟩
    · rw [Nat.zero_add, World.ownsRow.cellAt h.own _ (by omega)]; exact e0
    · rw [Nat.zero_add, World.ownsRow.cellAt h.own _ (by omega)]; exact e1
    · rw [Nat.zero_add, World.ownsRow.cellAt h.own _ (by omega)]; exact e2
    · rw [Nat.zero_add, World.ownsRow.cellAt h.own _ (by omega)]; exact e3
end
/-- A node is put behind an arena's nodes. -/
theorem sp_push {w w1 : World} {A c : Nat} {x : Option Addr} {ns : List Nd} (ho : NOwn w1 w.heap.size (.slice x ns.length c) ns) (hb : Below w.heap.size w w1) (ha : w1.heap[A]? = some (.cells #[.slice x ns.length c] 24 (0, 0))) (hA : w.heap.size ≤ A) (hn : ns.length ≤ 100000) (y : Nd) :
    ∃ g c' w2, (Builtin.append_ #[22, 22] 22 #[.slice x ns.length c, .slice (some ⟨w1.heap.size, 0, none⟩) 1 1]).run Try.prog (w1.alloc (.cells #[.int .i64 y.k, .int .i64 y.n, .int .i64 y.a, .int .i64 y.b] 37)) = .ok (.slice (some ⟨g, 0, none⟩) (ns.length + 1) c') w2 ∧
      w2.cell? ⟨A, 0, none⟩ = some (.slice x ns.length c) ∧ (∀ o, w2.frozen? ⟨A, o, none⟩ = false) ∧ SpAt w A g c' (ns ++ [y]) (w2.setCell ⟨A, 0, none⟩ (.slice (some ⟨g, 0, none⟩) (ns.length + 1) c')) := by
  have hcells : ∀ j u, (ncs [y])[j]? = some u → (w1.alloc (.cells #[.int .i64 y.k, .int .i64 y.n, .int .i64 y.a, .int .i64 y.b] 37)).cell? ((⟨w1.heap.size, 0, none⟩ : Addr).add j) = some u := by
    intro j u hu
    rw [add_none, Nat.zero_add, cell_at (heap_new _ _)]
    match j with
    | 0 => simpa [ncs] using hu
    | 1 => simpa [ncs] using hu
    | 2 => simpa [ncs] using hu
    | 3 => simpa [ncs] using hu
    | j + 4 => simp [ncs] at hu
  have hlt := lt_of_block ha
  have howx : NOwn (w1.alloc (.cells #[.int .i64 y.k, .int .i64 y.n, .int .i64 y.a, .int .i64 y.b] 37)) w.heap.size (.slice x ns.length c) ns := World.ownsRow.alloc ho _
  obtain ⟨v', w2, hrun, h1, h2, h3⟩ := howx.append 22 (c := 1) hcells (by simp; omega) (by have := hb.size; simp; omega)
  have hl : (ns ++ [y]).length = ns.length + 1 := by simp
  obtain ⟨g, c', hv⟩ : ∃ g c', v' = .slice (some ⟨g, 0, none⟩) (ns.length + 1) c' := by
    rcases h1.2 with ⟨_, h0⟩ | ⟨g, cap, cur, hv, _⟩
    · rw [hl] at h0; omega
    · exact ⟨g, cap, by rw [hv, hl]⟩
  subst hv
  have hrow : ∀ k, (Value.slice x ns.length c).ownBlock = some k → w.heap.size ≤ k ∧ k < w1.heap.size := fun k hk => ho.lt k hk
  have hAn : some A ≠ (Value.slice x ns.length c).ownBlock := by
    intro e
    rcases ho.2 with ⟨hv, _⟩ | ⟨g', cap, cur, hv, _, hh, _⟩
    · rw [hv] at e; cases e
    · rw [hv] at e
      injection e with e
      simp at e
      subst e
      have := ha.symm.trans hh
      simp at this
  have eA := ((h2.block A (by simp; omega) hAn).trans (heap_old _ _ hlt)).trans ha
  have hz := h2.size
  rw [World.size_alloc] at hz
  have hgA : A ≠ g := by
    rintro rfl
    rcases h1.2 with ⟨hv, _⟩ | ⟨g', cap, cur, hv, _, hh, _⟩
    · cases hv
    · injection hv with hv1 _ _
      injection hv1 with hv1
      injection hv1 with hv1
      subst hv1
      have := eA.symm.trans hh
      simp at this
  refine ⟨g, c', w2, hrun, cell_at eA 0, free_of eA, ?_, ?_, hA, ?_⟩
  · rw [hl]; exact set_one eA
  · rw [← hl] at h1 ⊢
    exact NOwn.kept h1 (Only.set w2 A 0 _) (.inr (fun e => by simp [Value.ownBlock] at e; omega))
  · refine Below.setCell (B := w.heap.size) ⟨h2.os.trans hb.os, h2.tape.trans hb.tape, h2.output.trans hb.output, by have := hb.size; omega, fun q hq => ?_⟩ hA _
    have hz1 := hb.size
    rw [h2.block q (by simp; omega) (fun e => by have := hrow q e.symm; omega), heap_old _ _ (by omega)]
    exact hb.block q hq
/-- An arena in a variable of its own, its nodes in a row that no one else holds. -/
structure TlAt (w : World) (A g c : Nat) (M : List Nd) (W : World) : Prop where
  a : W.heap[A]? = some (.cells #[.slice (some ⟨g, 0, none⟩) M.length c] 24 (0, 0))
  n : NsAt W M g 0
  l : M.length ≤ c
  m : c ≤ maxLen
  r : ∃ cur, W.heap[g]? = some (.cells cur 37 (0, 0))
  ne : A ≠ g
  lA : w.heap.size ≤ A
  lg : w.heap.size ≤ g
  hb : Below w.heap.size w W
theorem SpAt.tl {w : World} {A g c : Nat} {M : List Nd} {W : World} (h : SpAt w A g c M W) : TlAt w A g c M W := by
  obtain ⟨cur, h1, h2, h3, h4, h5, h6⟩ := h.row
  exact ⟨h.a, h2, h3, h4, ⟨cur, h1⟩, h5, h.lA, h6, h.hb⟩
theorem SpAt.drew {w : World} {A g c : Nat} {M : List Nd} {W : World} (h : SpAt w A g c M W) (k : Nat) : SpAt w A g c M (W.drewN k) :=
  ⟨h.a, h.own, h.lA, Below.draws h.hb k⟩
theorem TlAt.turn {w : World} {A g c : Nat} {M : List Nd} {W : World} (h : TlAt w A g c M W) {q : Nat} {y : Nd} (hy : M[q]? = some y) (f : Nat) (hf : f ≤ 3) (z : Int) : TlAt w A g c (M.set q (Go.Proofs.Ytcaefdngdmnpmaa.turn f z y)) (W.setCell ⟨g, q * 4 + f, none⟩ (.int .i64 z)) := by
  obtain ⟨cur, hc⟩ := h.r
  have hl : (M.set q (Go.Proofs.Ytcaefdngdmnpmaa.turn f z y)).length = M.length := List.length_set ..
  refine ⟨?_, NsAt.turn hc h.n hy hf z, by rw [hl]; exact h.l, h.m, ⟨_, heap_setCell_same _ _ _ _ _ _ hc⟩, h.ne, h.lA, h.lg, h.hb.setCell h.lg _⟩
  rw [hl]
  exact (Below.heap_setCell _ _ _ _ h.ne).trans h.a
theorem TlAt.later {w : World} {A g c : Nat} {M : List Nd} {W : World} (h : TlAt w A g c M W) {W' : World} (hb : Below W.heap.size W W') : NsIn W' (· < W.heap.size) M (some ⟨g, 0, none⟩) c := by
  obtain ⟨cur, hc⟩ := h.r
  have hg := lt_of_block hc
  exact ⟨h.l, h.m, (fun e => by cases e), fun _ => ⟨g, 0, rfl, hg, h.n.keep (hb.block _ hg)⟩⟩
end Go.Proofs.Ytcaefdngdmnpmaa
