/- A row of levels that is filled from its head on: what lies in it, and what a level more does. -/
import Derived.Test.YtcnhfoppfihhiaaStack
import Derived.Test.YtcnhfoppfihhiaaCell
namespace Go.Proofs.Ytcnhfoppfihhiaa
open Go.RowKit

/-- A level behind a forest. -/
theorem FoIn.snoc {w : World} {P : Nat → Prop} {k n : Int} {F : Fo} {x : Option Addr} {c : Nat} : ∀ (G : Fo) (b o : Nat), FoIn w P G b o → w.cell? ⟨b, o + G.len * 3, none⟩ = some (.int .i64 k) → w.cell? ⟨b, o + G.len * 3 + 1, none⟩ = some (.int .i64 n) →
    w.cell? ⟨b, o + G.len * 3 + 2, none⟩ = some (.slice x F.len c) → SlIn w P F x c → FoIn w P (G.app (.cons k n F .nil)) b o
  | .nil, b, o, _, h0, h1, h2, hs => by
    simp only [Fo.len, Nat.zero_mul, Nat.add_zero] at h0 h1 h2
    exact FoIn.push h0 h1 h2 hs trivial
  | .cons k' n' ks r, b, o, h, h0, h1, h2, hs => by
    obtain ⟨g1, g2, ⟨a, cap, g3, gs⟩, gr⟩ := h.first
    have e : o + (Fo.cons k' n' ks r).len * 3 = o + 3 + r.len * 3 := by simp only [Fo.len]; omega
    rw [e] at h0 h1 h2
    exact FoIn.push g1 g2 g3 gs (FoIn.snoc r b (o + 3) gr h0 h1 h2 hs)

/-- The block A is a row of c levels; the first ones are those of the forest G, whose Kids lie in later blocks. -/
def RowAt (w : World) (A c : Nat) (G : Fo) : Prop := ∃ cur : Array Value, w.heap[A]? = some (.cells cur 38 (0, 0)) ∧ cur.size = c * 3 ∧ FoIn w (fun b => A < b ∧ b < w.heap.size) G A 0
theorem RowAt.lt {w : World} {A c : Nat} {G : Fo} (h : RowAt w A c G) : A < w.heap.size := by
  obtain ⟨cur, h1, _⟩ := h
  exact lt_of_block h1
theorem RowAt.keep {w w' : World} {A c : Nat} {G : Fo} (h : RowAt w A c G) (hs : w.heap.size ≤ w'.heap.size) (hk : ∀ b, A ≤ b → b < w.heap.size → w'.heap[b]? = w.heap[b]?) : RowAt w' A c G := by
  have hlt := h.lt
  obtain ⟨cur, h1, h2, h3⟩ := h
  refine ⟨cur, (hk A (Nat.le_refl _) hlt).trans h1, h2, ?_⟩
  refine FoIn.weak (P := fun b => A < b ∧ b < w.heap.size) (fun b hb => ⟨hb.1, by omega⟩) _ _ _ ?_
  exact FoIn.cells (fun b hb => hk b (by omega) hb.2) G A 0 (fun j _ => World.cell?_of_block (w := w) (hk A (Nat.le_refl _) hlt)) h3
theorem RowAt.cellsAt {w : World} {A c : Nat} {G : Fo} (h : RowAt w A c G) {j : Nat} (hj : j < c) : (∃ u0, w.cell? ⟨A, j * 3, none⟩ = some u0) ∧ (∃ u1, w.cell? ⟨A, j * 3 + 1, none⟩ = some u1) ∧ (∃ u2, w.cell? ⟨A, j * 3 + 2, none⟩ = some u2) ∧ ∀ o, w.frozen? ⟨A, o, none⟩ = false := by
  obtain ⟨cur, h1, h2, _⟩ := h
  refine ⟨⟨cur[j * 3]'(by omega), ?_⟩, ⟨cur[j * 3 + 1]'(by omega), ?_⟩, ⟨cur[j * 3 + 2]'(by omega), ?_⟩, free_of h1⟩
  all_goals rw [cell_at h1]; exact Array.getElem?_eq_getElem _
/-- A level is stored behind those that are there. -/
theorem RowAt.store {w : World} {A c : Nat} {G : Fo} (h : RowAt w A c G) {j : Nat} (hG : G.len = j) (hj : j < c) (k n : Int) {F : Fo} {x : Option Addr} {cc : Nat} (hs : SlIn w (fun b => A < b ∧ b < w.heap.size) F x cc) :
    RowAt (((w.setCell ⟨A, j * 3, none⟩ (.int .i64 k)).setCell ⟨A, j * 3 + 1, none⟩ (.int .i64 n)).setCell ⟨A, j * 3 + 2, none⟩ (.slice x F.len cc)) A c (G.app (.cons k n F .nil)) := by
  subst hG
  obtain ⟨cur, h1, h2, h3⟩ := h
  have e1 := heap_setCell_same w A (G.len * 3) cur 38 (.int .i64 k) h1
  have e2 := heap_setCell_same _ A (G.len * 3 + 1) _ 38 (.int .i64 n) e1
  have e3 := heap_setCell_same _ A (G.len * 3 + 2) _ 38 (.slice x F.len cc) e2
  have hk : ∀ b, b ≠ A → (((w.setCell ⟨A, G.len * 3, none⟩ (.int .i64 k)).setCell ⟨A, G.len * 3 + 1, none⟩ (.int .i64 n)).setCell ⟨A, G.len * 3 + 2, none⟩ (.slice x F.len cc)).heap[b]? = w.heap[b]? := fun b hb => by
    rw [Below.heap_setCell _ _ _ _ hb, Below.heap_setCell _ _ _ _ hb, Below.heap_setCell _ _ _ _ hb]
  have hz : (((w.setCell ⟨A, G.len * 3, none⟩ (.int .i64 k)).setCell ⟨A, G.len * 3 + 1, none⟩ (.int .i64 n)).setCell ⟨A, G.len * 3 + 2, none⟩ (.slice x F.len cc)).heap.size = w.heap.size := by simp
  generalize (((w.setCell ⟨A, G.len * 3, none⟩ (.int .i64 k)).setCell ⟨A, G.len * 3 + 1, none⟩ (.int .i64 n)).setCell ⟨A, G.len * 3 + 2, none⟩ (.slice x F.len cc)) = W at e3 hk hz ⊢
  refine ⟨_, e3, by simpa using h2, ?_⟩
  rw [hz]
  have hP : ∀ b, (A < b ∧ b < w.heap.size) → W.heap[b]? = w.heap[b]? := fun b hb => hk b (by omega)
  refine FoIn.snoc G A 0 (FoIn.cells hP G A 0 (fun j hj => ?_) h3) ?_ ?_ ?_ (hs.keep hP)
  · rw [cell_at e3, cell_at h1, Nat.zero_add]
    rw [Array.getElem?_setIfInBounds_ne (by omega), Array.getElem?_setIfInBounds_ne (by omega), Array.getElem?_setIfInBounds_ne (by omega)]
  · rw [cell_at e3, Nat.zero_add, Array.getElem?_setIfInBounds_ne (by omega), Array.getElem?_setIfInBounds_ne (by omega), Array.getElem?_setIfInBounds_self_of_lt (by omega)]
  · rw [cell_at e3, Nat.zero_add, Array.getElem?_setIfInBounds_ne (by omega), Array.getElem?_setIfInBounds_self_of_lt (by simp; omega)]
  · rw [cell_at e3, Nat.zero_add, Array.getElem?_setIfInBounds_self_of_lt (by simp; omega)]
/-- A row that was just made holds nothing yet. -/
theorem RowAt.start {w : World} {A c base : Nat} {xs : List Value} (h : w.ownsRow base 38 3 (.slice (some ⟨A, 0, none⟩) c c) c xs) : RowAt w A c .nil := by
  rcases h.2 with ⟨he, _⟩ | ⟨g, cap, cur, hv, _, hh, _, _, hs, _⟩
  · cases he
  · injection hv with hv1 _ hv3
    injection hv1 with hv1
    injection hv1 with hv1
    subst hv1 hv3
    exact ⟨cur, hh, hs, trivial⟩
/-- The row, when it is full, as a slice. -/
theorem RowAt.full {w : World} {A c lo : Nat} {G : Fo} (h : RowAt w A c G) (hG : G.len = c) (hc : c ≤ 1000000) (hlo : lo ≤ A) : SlIn w (fun b => lo ≤ b ∧ b < w.heap.size) G (some ⟨A, 0, none⟩) c := by
  have hlt := h.lt
  obtain ⟨cur, _, _, h3⟩ := h
  exact SlIn.mk (by omega) hc ⟨hlo, hlt⟩ (FoIn.weak (fun b hb => ⟨by omega, hb.2⟩) _ _ _ h3)
end Go.Proofs.Ytcnhfoppfihhiaa
