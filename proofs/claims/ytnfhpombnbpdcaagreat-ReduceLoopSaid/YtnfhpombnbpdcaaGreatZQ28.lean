/- Tcrow. No condition but those that stand in each statement. -/
import Derived.Test.YtnfhpombnbpdcaaGreatZQ26
namespace Go.Proofs.YtnfhpombnbpdcaaGreat
open Go.RowKit
def TcR (w : World) (o : Obj) (OB B : Nat) (k n : Int) (G : Fo) (v : Value) (wr : World) : Prop :=
  wr.heap[w.heap.size]? = some o ∧ wr.heap[w.heap.size + 1]? = some (.cells #[.int .i64 0, .int .i64 0, .slice none 0 0, .slice none 0 0] 30 (0, 0)) ∧ wr.heap[OB]? = some (.cells #[.int .i64 k, .int .i64 n, v, .slice none 0 0] 30 (0, 0)) ∧ KsMix B (OB + 1) wr v G ∧ w.heap.size + 1 < OB ∧ B ≤ w.heap.size ∧ Below w.heap.size w wr
theorem TcR.facts {w : World} {ob : Obj} {OB B : Nat} {k n : Int} {G : Fo} {v : Value} {wr : World} (h : TcR w ob OB B k n G v wr) :
    wr.heap[w.heap.size]? = some ob ∧ wr.cell? ⟨OB, 2, none⟩ = some v ∧ (∀ o, wr.frozen? ⟨OB, o, none⟩ = false) ∧ OB < wr.heap.size ∧ Below w.heap.size w wr := by
  obtain ⟨h0, h1, h2, _, _, _, h6⟩ := h
  exact ⟨h0, cell_at h2 2, free_of h2, lt_of_block h2, h6⟩
theorem TcR.next {w : World} {ob : Obj} {OB B : Nat} {k n : Int} {G : Fo} {v : Value} {wr : World} (h : TcR w ob OB B k n G v wr) (hG : G.len ≤ 1000) {k' n' : Int} {F' : Fo} {w2 : World} {x' : Option Addr} {c' : Nat} (hs : SlIn w2 (fun b => (b < B ∨ wr.heap.size ≤ b) ∧ b < w2.heap.size) F' x' c') (hb : Below wr.heap.size wr w2) :
    w2.cell? ⟨OB, 2, none⟩ = some v ∧ OB < w2.heap.size ∧ ∃ g' cap' w3, (Builtin.append_ #[27, 27] 27 #[v, .slice (some ⟨w2.heap.size, 0, none⟩) 1 1]).run Tryz.prog (w2.alloc (.cells #[.int .i64 k', .int .i64 n', .slice x' F'.len c'] 45)) = .ok (.slice (some ⟨g', 0, none⟩) (G.len + 1) cap') w3 ∧
      w3.cell? ⟨OB, 2, none⟩ = some v ∧ (∀ o, w3.frozen? ⟨OB, o, none⟩ = false) ∧ TcR w ob OB B k n (G.app (.cons k' n' F' .nil)) (.slice (some ⟨g', 0, none⟩) (G.len + 1) cap') (w3.setCell ⟨OB, 2, none⟩ (.slice (some ⟨g', 0, none⟩) (G.len + 1) cap')) := by
  obtain ⟨h0, h1, h2, h3, h4, h5, h6⟩ := h
  have hlt := lt_of_block h2
  have e0 := (hb.block _ (lt_of_block h0)).trans h0
  have e1 := (hb.block _ (lt_of_block h1)).trans h1
  have e2 := (hb.block _ hlt).trans h2
  have hz := hb.size
  obtain ⟨g', cap', w3, hrun, k3, same, z3, o1, o2, o3⟩ := (h3.later hb).append k' n' (h3.fresh (by omega) (by omega) hs) 27 hG (by omega) (by omega)
  have nv : ∀ b, b ≤ OB → some b ≠ v.ownBlock := fun b hb e => by have := (h3.lt b e.symm).1; omega
  have f0 := (same _ (lt_of_block e0) (nv _ (by omega))).trans e0
  have f1 := (same _ (lt_of_block e1) (nv _ (by omega))).trans e1
  have f2 := (same _ (lt_of_block e2) (nv _ (by omega))).trans e2
  have n0 : w.heap.size ≠ OB := by omega
  have n1 : w.heap.size + 1 ≠ OB := by omega
  refine ⟨cell_at e2 2, lt_of_block e2, g', cap', w3, hrun, cell_at f2 2, free_of f2, (Below.heap_setCell _ _ _ _ n0).trans f0, (Below.heap_setCell _ _ _ _ n1).trans f1, heap_setCell_same w3 _ 2 _ _ _ f2, k3.setLow (by omega) (by omega) 2 _, h4, h5, ?_⟩
  refine ⟨(o1.trans hb.os).trans h6.os, (o2.trans hb.tape).trans h6.tape, (o3.trans hb.output).trans h6.output, ?_, fun q hq => ?_⟩
  · have := h6.size; simp; omega
  · have hq6 := h6.size
    have nq : q ≠ OB := by omega
    rw [Below.heap_setCell _ _ _ _ nq, same q (by omega) (nv q (by omega)), hb.block q (by omega)]
    exact h6.block q hq
theorem TcR.start {w : World} {k n : Int} {B : Nat} (o1 : Obj) (hB : B ≤ w.heap.size) :
    TcR w o1 (w.heap.size + 1 + 1) B k n .nil (.slice none 0 0) (((w.alloc o1).alloc (.cells #[.int .i64 0, .int .i64 0, .slice none 0 0, .slice none 0 0] 30)).alloc (.cells #[.int .i64 k, .int .i64 n, .slice none 0 0, .slice none 0 0] 30)) := by
  refine ⟨(heap_old _ _ (by simp; omega)).trans ((heap_old _ _ (by simp)).trans (heap_new _ _)), (heap_old _ _ (by simp)).trans (heap_second _ _ _), ?_, KsMix.nil _ _ _, by omega, hB, (((Below.refl _ _).alloc (Nat.le_refl _) _).alloc (by simp) _).alloc (by simp; omega) _⟩
  have := heap_second (w.alloc o1) (.cells #[.int .i64 0, .int .i64 0, .slice none 0 0, .slice none 0 0] 30) (.cells #[.int .i64 k, .int .i64 n, .slice none 0 0, .slice none 0 0] 30)
  simpa using this
def TcK (w : World) (o : Obj) (OB lo B : Nat) (k n : Int) (L : Fo) (x : Option Addr) (c : Nat) (G : Ft) (v : Value) (wr : World) : Prop :=
  wr.heap[w.heap.size]? = some o ∧ wr.heap[w.heap.size + 1]? = some (.cells #[.int .i64 0, .int .i64 0, .slice none 0 0, .slice none 0 0] 30 (0, 0)) ∧ wr.heap[OB]? = some (.cells #[.int .i64 k, .int .i64 n, .slice x L.len c, v] 30 (0, 0)) ∧ SlIn wr (fun b => (b < B ∨ OB < b) ∧ b < lo) L x c ∧ TsMix B lo wr v G ∧ (w.heap.size + 1 < OB ∧ OB < lo ∧ lo ≤ wr.heap.size) ∧ B ≤ w.heap.size ∧ Below w.heap.size w wr
theorem TcR.kids {w : World} {ob : Obj} {OB B : Nat} {k n : Int} {G : Fo} {v : Value} {wr : World} (h : TcR w ob OB B k n G v wr) : ∃ x c, v = .slice x G.len c ∧ TcK w ob OB wr.heap.size B k n G x c .nil (.slice none 0 0) wr := by
  obtain ⟨h0, h1, h2, h3, h4, h5, h6⟩ := h
  obtain ⟨x, c, rfl, hsl⟩ := h3.slice
  exact ⟨x, c, rfl, h0, h1, h2, hsl.weak (fun b hb => ⟨by omega, hb.2⟩), TsMix.nil _ _ _, ⟨h4, lt_of_block h2, Nat.le_refl _⟩, h5, h6⟩
theorem TcK.facts {w : World} {ob : Obj} {OB lo B : Nat} {k n : Int} {L : Fo} {x : Option Addr} {c : Nat} {G : Ft} {v : Value} {wr : World} (h : TcK w ob OB lo B k n L x c G v wr) :
    wr.heap[w.heap.size]? = some ob ∧ (wr.cell? ⟨w.heap.size + 1, 0, none⟩ = some (.int .i64 0) ∧ wr.cell? ⟨w.heap.size + 1, 1, none⟩ = some (.int .i64 0) ∧ wr.cell? ⟨w.heap.size + 1, 2, none⟩ = some (.slice none 0 0) ∧ wr.cell? ⟨w.heap.size + 1, 3, none⟩ = some (.slice none 0 0) ∧ (∀ o, wr.frozen? ⟨w.heap.size + 1, o, none⟩ = false)) ∧
    (wr.cell? ⟨OB, 0, none⟩ = some (.int .i64 k) ∧ wr.cell? ⟨OB, 1, none⟩ = some (.int .i64 n) ∧ wr.cell? ⟨OB, 2, none⟩ = some (.slice x L.len c) ∧ wr.cell? ⟨OB, 3, none⟩ = some v ∧ (∀ o, wr.frozen? ⟨OB, o, none⟩ = false)) ∧ OB < wr.heap.size ∧ Below w.heap.size w wr := by
  obtain ⟨h0, h1, h2, _, _, _, _, h6⟩ := h
  exact ⟨h0, ⟨cell_at h1 0, cell_at h1 1, cell_at h1 2, cell_at h1 3, free_of h1⟩, ⟨cell_at h2 0, cell_at h2 1, cell_at h2 2, cell_at h2 3, free_of h2⟩, lt_of_block h2, h6⟩
theorem TcK.next {w : World} {ob : Obj} {OB lo B : Nat} {k n : Int} {L : Fo} {x : Option Addr} {c : Nat} {G : Ft} {v : Value} {wr : World} (h : TcK w ob OB lo B k n L x c G v wr) (hG : G.len ≤ 1000) {T : Tm} {w2 : World} {x1 x2 : Option Addr} {c1 c2 : Nat}
    (hl : SlIn w2 (fun b => (b < B ∨ wr.heap.size ≤ b) ∧ b < w2.heap.size) T.ls x1 c1) (hs : TlIn w2 (fun b => (b < B ∨ wr.heap.size ≤ b) ∧ b < w2.heap.size) T.ks x2 c2) (hb : Below wr.heap.size wr w2) :
    w2.cell? ⟨OB, 3, none⟩ = some v ∧ OB < w2.heap.size ∧ ∃ g' cap' w3, (Builtin.append_ #[28, 28] 28 #[v, .slice (some ⟨w2.heap.size, 0, none⟩) 1 1]).run Tryz.prog (w2.alloc (.cells #[.int .i64 T.k, .int .i64 T.n, .slice x1 T.ls.len c1, .slice x2 T.ks.len c2] 30)) = .ok (.slice (some ⟨g', 0, none⟩) (G.len + 1) cap') w3 ∧
      w3.cell? ⟨OB, 3, none⟩ = some v ∧ (∀ o, w3.frozen? ⟨OB, o, none⟩ = false) ∧ TcK w ob OB lo B k n L x c (G.app T.one) (.slice (some ⟨g', 0, none⟩) (G.len + 1) cap') (w3.setCell ⟨OB, 3, none⟩ (.slice (some ⟨g', 0, none⟩) (G.len + 1) cap')) := by
  obtain ⟨h0, h1, h2, hL, h3, ⟨h4, h4', h4''⟩, h5, h6⟩ := h
  have hlt := lt_of_block h2
  have e0 := (hb.block _ (lt_of_block h0)).trans h0
  have e1 := (hb.block _ (lt_of_block h1)).trans h1
  have e2 := (hb.block _ hlt).trans h2
  have hz := hb.size
  have hM : ∀ b, (b < B ∨ wr.heap.size ≤ b) ∧ b < w2.heap.size → Mx B lo w2 v b := fun b hb' => h3.out (by omega) (by omega) hb'
  obtain ⟨g', cap', w3, hrun, k3, same, z3, o1, o2, o3⟩ := (h3.later hb).append T.k T.n (hl.weak hM) (hs.weak hM) 28 hG (by omega)
  have nv : ∀ b, b < lo → some b ≠ v.ownBlock := fun b hb e => by have := (h3.lt b e.symm).1; omega
  have f0 := (same _ (lt_of_block e0) (nv _ (by omega))).trans e0
  have f1 := (same _ (lt_of_block e1) (nv _ (by omega))).trans e1
  have f2 := (same _ (lt_of_block e2) (nv _ (by omega))).trans e2
  have n0 : w.heap.size ≠ OB := by omega
  have n1 : w.heap.size + 1 ≠ OB := by omega
  have hq6 := h6.size
  refine ⟨cell_at e2 3, lt_of_block e2, g', cap', w3, hrun, cell_at f2 3, free_of f2, (Below.heap_setCell _ _ _ _ n0).trans f0, (Below.heap_setCell _ _ _ _ n1).trans f1, heap_setCell_same w3 _ 3 _ _ _ f2, ?_, k3.setLow (by omega) (by omega) 3 _, ⟨h4, h4', by simp; omega⟩, h5, ?_⟩
  · refine hL.keep (fun b hb' => ?_)
    have nb : b ≠ OB := by omega
    rw [Below.heap_setCell _ _ _ _ nb, same b (by omega) (nv b hb'.2), hb.block b (by omega)]
  · refine ⟨(o1.trans hb.os).trans h6.os, (o2.trans hb.tape).trans h6.tape, (o3.trans hb.output).trans h6.output, by simp; omega, fun q hq => ?_⟩
    have nq : q ≠ OB := by omega
    rw [Below.heap_setCell _ _ _ _ nq, same q (by omega) (nv q (by omega)), hb.block q (by omega)]
    exact h6.block q hq
theorem TcK.done {w : World} {ob : Obj} {OB lo B : Nat} {k n : Int} {L : Fo} {x : Option Addr} {c : Nat} {G : Ft} {v : Value} {wr : World} (h : TcK w ob OB lo B k n L x c G v wr) : ∃ y d, v = .slice y G.len d ∧
    TmPost B ⟨k, n, L, G⟩ w (.returned (.agg #[.int .i64 k, .int .i64 n, .slice x L.len c, .slice y G.len d])) ((((wr.setCell ⟨w.heap.size + 1, 0, none⟩ (.int .i64 k)).setCell ⟨w.heap.size + 1, 1, none⟩ (.int .i64 n)).setCell ⟨w.heap.size + 1, 2, none⟩ (.slice x L.len c)).setCell ⟨w.heap.size + 1, 3, none⟩ (.slice y G.len d)) := by
  obtain ⟨h0, h1, h2, hL, h3, ⟨h4, h4', h4''⟩, h5, h6⟩ := h
  obtain ⟨y, d, rfl, hsl⟩ := h3.slice
  have hg := set4_only (w := wr) (w.heap.size + 1) (.int .i64 k) (.int .i64 n) (.slice x L.len c) (.slice y G.len d)
  have hz := h6.size
  have hgz := hg.size
  refine ⟨y, d, rfl, x, c, y, d, rfl, ?_, ?_, ?_⟩
  · exact (hL.keep (fun b hb => Only.block hg (by omega) (by omega))).weak (fun b hb => ⟨by omega, by omega⟩)
  · exact hsl.turn (fun b hb => Only.block hg hb.2 (by omega)) (fun b hb => ⟨by omega, by omega⟩)
  · exact ⟨hg.os.trans h6.os, hg.tape.trans h6.tape, hg.output.trans h6.output, Nat.le_trans h6.size hg.size, fun q hq => (Only.block hg (by omega) (by omega)).trans (h6.block q hq)⟩
end Go.Proofs.YtnfhpombnbpdcaaGreat
