/- What stands in memory while the document's own lift and open make a term's Kids: the term in block OB, the answer's block R ahead of it. No condition. -/
import Derived.Test.YtokckghedpdfiaaTmix
namespace Go.Proofs.Ytokckghedpdfiaa
open Go.RowKit

def TrQ (w : World) (R OB B : Nat) (k n : Int) (ls : Fo) (la : Option Addr) (lc : Nat) (G : Ft) (v : Value) (wr : World) : Prop :=
  wr.heap[R]? = some (.cells #[.int .i64 0, .int .i64 0, .slice none 0 0, .slice none 0 0] 25 (0, 0)) ∧ wr.heap[OB]? = some (.cells #[.int .i64 k, .int .i64 n, .slice la ls.len lc, v] 25 (0, 0)) ∧ TsMix B (OB + 1) wr v G ∧ (w.heap.size ≤ R ∧ R < OB) ∧ B ≤ w.heap.size ∧ Below w.heap.size w wr
theorem TrQ.facts {w : World} {R OB B : Nat} {k n : Int} {ls : Fo} {la : Option Addr} {lc : Nat} {G : Ft} {v : Value} {wr : World} (h : TrQ w R OB B k n ls la lc G v wr) :
    (wr.cell? ⟨R, 0, none⟩ = some (.int .i64 0) ∧ wr.cell? ⟨R, 1, none⟩ = some (.int .i64 0) ∧ wr.cell? ⟨R, 2, none⟩ = some (.slice none 0 0) ∧ wr.cell? ⟨R, 3, none⟩ = some (.slice none 0 0) ∧ (∀ o, wr.frozen? ⟨R, o, none⟩ = false)) ∧
    (wr.cell? ⟨OB, 0, none⟩ = some (.int .i64 k) ∧ wr.cell? ⟨OB, 1, none⟩ = some (.int .i64 n) ∧ wr.cell? ⟨OB, 2, none⟩ = some (.slice la ls.len lc) ∧ wr.cell? ⟨OB, 3, none⟩ = some v ∧ (∀ o, wr.frozen? ⟨OB, o, none⟩ = false)) ∧ OB < wr.heap.size ∧ Below w.heap.size w wr := by
  obtain ⟨h1, h2, _, _, _, h6⟩ := h
  exact ⟨⟨cell_at h1 0, cell_at h1 1, cell_at h1 2, cell_at h1 3, free_of h1⟩, ⟨cell_at h2 0, cell_at h2 1, cell_at h2 2, cell_at h2 3, free_of h2⟩, lt_of_block h2, h6⟩
/-- A kid more: the append behind the others, what lies there then, and that all ahead of OB is as it was. -/
theorem TrQ.next {w : World} {R OB B : Nat} {k n : Int} {ls : Fo} {la : Option Addr} {lc : Nat} {G : Ft} {v : Value} {wr : World} (h : TrQ w R OB B k n ls la lc G v wr) (hG : G.len ≤ 1000) {T : Tm} {w2 : World} {x1 x2 : Option Addr} {c1 c2 : Nat}
    (hl : SlIn w2 (fun b => (b < B ∨ wr.heap.size ≤ b) ∧ b < w2.heap.size) T.ls x1 c1) (hs : TlIn w2 (fun b => (b < B ∨ wr.heap.size ≤ b) ∧ b < w2.heap.size) T.ks x2 c2) (hb : Below wr.heap.size wr w2) :
    w2.cell? ⟨OB, 3, none⟩ = some v ∧ OB < w2.heap.size ∧ ∃ g' cap' w3, (Builtin.append_ #[23, 23] 23 #[v, .slice (some ⟨w2.heap.size, 0, none⟩) 1 1]).run Try.prog (w2.alloc (.cells #[.int .i64 T.k, .int .i64 T.n, .slice x1 T.ls.len c1, .slice x2 T.ks.len c2] 25)) = .ok (.slice (some ⟨g', 0, none⟩) (G.len + 1) cap') w3 ∧
      w3.cell? ⟨OB, 3, none⟩ = some v ∧ (∀ o, w3.frozen? ⟨OB, o, none⟩ = false) ∧ (∀ q, q < OB → w3.heap[q]? = wr.heap[q]?) ∧ TrQ w R OB B k n ls la lc (G.app T.one) (.slice (some ⟨g', 0, none⟩) (G.len + 1) cap') (w3.setCell ⟨OB, 3, none⟩ (.slice (some ⟨g', 0, none⟩) (G.len + 1) cap')) := by
  obtain ⟨h1, h2, h3, ⟨h4, h4'⟩, h5, h6⟩ := h
  have hlt := lt_of_block h2
  have e1 := (hb.block _ (lt_of_block h1)).trans h1
  have e2 := (hb.block _ hlt).trans h2
  have hz := hb.size
  have hM : ∀ b, (b < B ∨ wr.heap.size ≤ b) ∧ b < w2.heap.size → Mx B (OB + 1) w2 v b := fun b hb' => h3.out (by omega) (by omega) hb'
  obtain ⟨g', cap', w3, hrun, k3, same, z3, o1, o2, o3⟩ := (h3.later hb).append T.k T.n (hl.weak hM) (hs.weak hM) 23 hG (by omega)
  have nv : ∀ b, b ≤ OB → some b ≠ v.ownBlock := fun b hb e => by have := (h3.lt b e.symm).1; omega
  have f1 := (same _ (lt_of_block e1) (nv _ (by omega))).trans e1
  have f2 := (same _ (lt_of_block e2) (nv _ (by omega))).trans e2
  have n1 : R ≠ OB := by omega
  refine ⟨cell_at e2 3, lt_of_block e2, g', cap', w3, hrun, cell_at f2 3, free_of f2, fun q hq => (same q (by omega) (nv q (by omega))).trans (hb.block q (by omega)), (Below.heap_setCell _ _ _ _ n1).trans f1, heap_setCell_same w3 _ 3 _ _ _ f2, k3.setLow (by omega) (by omega) 3 _, ⟨h4, h4'⟩, h5, ?_⟩
  refine ⟨(o1.trans hb.os).trans h6.os, (o2.trans hb.tape).trans h6.tape, (o3.trans hb.output).trans h6.output, ?_, fun q hq => ?_⟩
  · have := h6.size; simp; omega
  · have hq6 := h6.size
    have nq : q ≠ OB := by omega
    rw [Below.heap_setCell _ _ _ _ nq, same q (by omega) (nv q (by omega)), hb.block q (by omega)]
    exact h6.block q hq
/-- The answer, when all Kids are there. -/
theorem TrQ.done {w : World} {R OB B : Nat} {k n : Int} {ls : Fo} {la : Option Addr} {lc : Nat} {G : Ft} {v : Value} {wr : World} (h : TrQ w R OB B k n ls la lc G v wr) (hl : SlIn w (· < B) ls la lc) : ∃ x c, v = .slice x G.len c ∧
    TmPost B ⟨k, n, ls, G⟩ w (.returned (.agg #[.int .i64 k, .int .i64 n, .slice la ls.len lc, .slice x G.len c])) ((((wr.setCell ⟨R, 0, none⟩ (.int .i64 k)).setCell ⟨R, 1, none⟩ (.int .i64 n)).setCell ⟨R, 2, none⟩ (.slice la ls.len lc)).setCell ⟨R, 3, none⟩ (.slice x G.len c)) := by
  obtain ⟨h1, h2, h3, ⟨h4, h4'⟩, h5, h6⟩ := h
  obtain ⟨x, c, rfl, hsl⟩ := h3.slice
  have hg := set4_only (w := wr) R (.int .i64 k) (.int .i64 n) (.slice la ls.len lc) (.slice x G.len c)
  have hz := h6.size
  refine ⟨x, c, rfl, la, lc, x, c, rfl, ?_, ?_, ?_⟩
  · exact ((hl.below (h6.mono h5)).keep (fun b hb => Only.block hg (by omega) (by omega))).weak (fun b hb => ⟨.inl hb, by have := hg.size; omega⟩)
  · exact hsl.turn (fun b hb => Only.block hg hb.2 (by omega)) (fun b hb => ⟨by omega, Nat.lt_of_lt_of_le hb.2 hg.size⟩)
  · exact ⟨hg.os.trans h6.os, hg.tape.trans h6.tape, hg.output.trans h6.output, Nat.le_trans h6.size hg.size, fun q hq => (Only.block hg (by omega) (by omega)).trans (h6.block q hq)⟩
theorem TrQ.start1 {w : World} {k n : Int} {ls : Fo} {la : Option Addr} {lc B : Nat} (o1 : Obj) (hB : B ≤ w.heap.size) :
    TrQ w (w.heap.size + 1) (w.heap.size + 1 + 1) B k n ls la lc .nil (.slice none 0 0) (((w.alloc o1).alloc (.cells #[.int .i64 0, .int .i64 0, .slice none 0 0, .slice none 0 0] 25)).alloc (.cells #[.int .i64 k, .int .i64 n, .slice la ls.len lc, .slice none 0 0] 25)) := by
  refine ⟨(heap_old _ _ (by simp)).trans (heap_second _ _ _), ?_, TsMix.nil _ _ _, by omega, hB, (((Below.refl _ _).alloc (Nat.le_refl _) _).alloc (by simp) _).alloc (by simp; omega) _⟩
  have := heap_second (w.alloc o1) (.cells #[.int .i64 0, .int .i64 0, .slice none 0 0, .slice none 0 0] 25) (.cells #[.int .i64 k, .int .i64 n, .slice la ls.len lc, .slice none 0 0] 25)
  simpa using this
theorem TrQ.start2 {w : World} {k n : Int} {ls : Fo} {la : Option Addr} {lc B : Nat} (o1 o2 : Obj) (hB : B ≤ w.heap.size) :
    TrQ w (w.heap.size + 1 + 1) (w.heap.size + 1 + 1 + 1) B k n ls la lc .nil (.slice none 0 0) ((((w.alloc o1).alloc o2).alloc (.cells #[.int .i64 0, .int .i64 0, .slice none 0 0, .slice none 0 0] 25)).alloc (.cells #[.int .i64 k, .int .i64 n, .slice la ls.len lc, .slice none 0 0] 25)) := by
  refine ⟨(heap_old _ _ (by simp)).trans ?_, ?_, TsMix.nil _ _ _, by omega, hB, ((((Below.refl _ _).alloc (Nat.le_refl _) _).alloc (by simp) _).alloc (by simp; omega) _).alloc (by simp; omega) _⟩
  · have := heap_second (w.alloc o1) o2 (.cells #[.int .i64 0, .int .i64 0, .slice none 0 0, .slice none 0 0] 25)
    simpa using this
  · have := heap_second ((w.alloc o1).alloc o2) (.cells #[.int .i64 0, .int .i64 0, .slice none 0 0, .slice none 0 0] 25) (.cells #[.int .i64 k, .int .i64 n, .slice la ls.len lc, .slice none 0 0] 25)
    simpa using this
/-- The cells that the round reads, in a world that has not changed ahead of OB. -/
theorem rqHeld {W w' : World} {N b i : Nat} {x0 x3 y0 y1 y2 y3 : Value} (h : ∀ q, q ≤ N → w'.heap[q]? = W.heap[q]?) (hb : b ≤ N) (q0 : W.cell? ⟨N, 0, none⟩ = some x0) (q3 : W.cell? ⟨N, 3, none⟩ = some x3) (e0 : W.cell? ⟨b, i, none⟩ = some y0) (e1 : W.cell? ⟨b, i + 1, none⟩ = some y1) (e2 : W.cell? ⟨b, i + 2, none⟩ = some y2) (e3 : W.cell? ⟨b, i + 3, none⟩ = some y3) :
    w'.cell? ⟨N, 0, none⟩ = some x0 ∧ w'.cell? ⟨N, 3, none⟩ = some x3 ∧ w'.cell? ⟨b, i, none⟩ = some y0 ∧ w'.cell? ⟨b, i + 1, none⟩ = some y1 ∧ w'.cell? ⟨b, i + 2, none⟩ = some y2 ∧ w'.cell? ⟨b, i + 3, none⟩ = some y3 :=
  ⟨(World.cell?_of_block (a := ⟨N, 0, none⟩) (h _ (Nat.le_refl _))).trans q0, (World.cell?_of_block (a := ⟨N, 3, none⟩) (h _ (Nat.le_refl _))).trans q3, (World.cell?_of_block (a := ⟨b, i, none⟩) (h _ hb)).trans e0, (World.cell?_of_block (a := ⟨b, i + 1, none⟩) (h _ hb)).trans e1, (World.cell?_of_block (a := ⟨b, i + 2, none⟩) (h _ hb)).trans e2, (World.cell?_of_block (a := ⟨b, i + 3, none⟩) (h _ hb)).trans e3⟩
end Go.Proofs.Ytokckghedpdfiaa
