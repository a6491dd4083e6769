/- Kmix. No condition but those that stand in each statement. -/
import Derived.RangeFuncBox
import Derived.Test.YtnfhpombnbpdcaaGreatZQ10
namespace Go.Proofs.YtnfhpombnbpdcaaGreat
open Go.RowKit
def Mx (B lo : Nat) (W : World) (v : Value) (b : Nat) : Prop := (b < B ∨ lo ≤ b) ∧ b < W.heap.size ∧ some b ≠ v.ownBlock
def KsMix (B lo : Nat) (W : World) (v : Value) (G : Fo) : Prop := ∃ xs, W.ownsRow lo 45 3 v G.len xs ∧ RepP W (Mx B lo W v) G xs
theorem KsMix.nil (B lo : Nat) (W : World) : KsMix B lo W (.slice none 0 0) .nil := ⟨[], World.ownsRow_nil _ _ _ _, rfl⟩
theorem KsMix.grow {B lo : Nat} {W W' : World} {v : Value} {G : Fo} (h : KsMix B lo W v G) (hz : W.heap.size ≤ W'.heap.size) (hk : ∀ b, (b < B ∨ lo ≤ b) → b < W.heap.size → W'.heap[b]? = W.heap[b]?) : KsMix B lo W' v G := by
  obtain ⟨xs, h1, h2⟩ := h
  refine ⟨xs, ?_, h2.keep (fun b hb => hk b hb.1 hb.2.1) (fun b hb => ⟨hb.1, Nat.lt_of_lt_of_le hb.2.1 hz, hb.2.2⟩)⟩
  refine ⟨h1.1, ?_⟩
  rcases h1.2 with hn | ⟨g, cap, cur, e, hb, hh, rest⟩
  · exact .inl hn
  · exact .inr ⟨g, cap, cur, e, hb, (hk g (.inr hb) (lt_of_block hh)).trans hh, rest⟩
theorem KsMix.grown {B lo R : Nat} {W W' : World} {v : Value} {G : Fo} (h : KsMix B lo W v G) (hg : W.grownBy W' (some R)) (hB : B ≤ R) (hR : R < lo) : KsMix B lo W' v G := h.grow hg.size (fun b h1 h2 => Only.block hg h2 (by omega))
theorem KsMix.setLow {B lo : Nat} {W : World} {v : Value} {G : Fo} (h : KsMix B lo W v G) {b : Nat} (hB : B ≤ b) (hb : b < lo) (i : Nat) (u : Value) : KsMix B lo (W.setCell ⟨b, i, none⟩ u) v G := h.grown (Only.set W b i u) hB hb
theorem KsMix.later {B lo : Nat} {W W' : World} {v : Value} {G : Fo} (h : KsMix B lo W v G) (hb : Below W.heap.size W W') : KsMix B lo W' v G := h.grow hb.size (fun b _ h2 => hb.block b h2)
theorem KsMix.lt {B lo : Nat} {W : World} {v : Value} {G : Fo} (h : KsMix B lo W v G) : ∀ g, v.ownBlock = some g → lo ≤ g ∧ g < W.heap.size := by
  obtain ⟨xs, h1, _⟩ := h
  exact h1.lt
theorem KsMix.fresh {B lo : Nat} {W W' : World} {v : Value} {G F : Fo} {x : Option Addr} {c : Nat} (h : KsMix B lo W v G) (hlo : lo ≤ W.heap.size) (hB : B ≤ lo) (hs : SlIn W' (fun b => (b < B ∨ W.heap.size ≤ b) ∧ b < W'.heap.size) F x c) : SlIn W' (Mx B lo W' v) F x c :=
  hs.weak (fun b hb => ⟨by omega, hb.2, fun e => by have := h.lt b e.symm; omega⟩)
theorem KsMix.append {B lo : Nat} {W : World} {v : Value} {G F : Fo} {x : Option Addr} {c : Nat} (h : KsMix B lo W v G) (k n : Int) (hs : SlIn W (Mx B lo W v) F x c) (ty : TypeId) (hG : G.len ≤ 1000) (hlo : 1 ≤ lo) (hW : lo ≤ W.heap.size) :
    ∃ g' cap' w3, (Builtin.append_ #[27, 27] ty #[v, .slice (some ⟨W.heap.size, 0, none⟩) 1 1]).run Tryz.prog (W.alloc (.cells #[.int .i64 k, .int .i64 n, .slice x F.len c] 45)) = .ok (.slice (some ⟨g', 0, none⟩) (G.len + 1) cap') w3 ∧
      KsMix B lo w3 (.slice (some ⟨g', 0, none⟩) (G.len + 1) cap') (G.app (.cons k n F .nil)) ∧ (∀ b, b < W.heap.size → some b ≠ v.ownBlock → w3.heap[b]? = W.heap[b]?) ∧ W.heap.size + 1 ≤ w3.heap.size ∧ w3.os = W.os ∧ w3.tape = W.tape ∧ w3.output = W.output := by
  obtain ⟨xs, h1, h2⟩ := h
  have hl : lo = (lo - 1) + 1 := by omega
  rw [hl] at h1
  obtain ⟨v', w3, hrun, a1, a2, a3⟩ := append_kid ty h1 hG (by omega) k n x F.len c
  obtain ⟨g', cap', rfl⟩ := ownsRow_succ a1
  rw [← hl] at a1 h1
  have z2 := a2.size
  rw [World.size_alloc] at z2
  have same : ∀ b, b < W.heap.size → some b ≠ v.ownBlock → w3.heap[b]? = W.heap[b]? := fun b hb hn => (a2.block b (by rw [World.size_alloc]; omega) hn).trans (heap_old _ _ hb)
  have hnew : ∀ b, b < W.heap.size → some b ≠ v.ownBlock → some b ≠ (Value.slice (some ⟨g', 0, none⟩) (G.len + 1) cap').ownBlock := fun b hb hn => by
    rcases a3 with a3 | a3
    · rw [a3]; exact hn
    · rw [a3]; intro e; injection e with e; omega
  refine ⟨g', cap', w3, hrun, ⟨xs ++ [.int .i64 k, .int .i64 n, .slice x F.len c], ?_, ?_⟩, same, z2, a2.os, a2.tape, a2.output⟩
  · rw [Fo.app_len]; exact a1
  · refine RepP.snoc ?_ (h2.keep (fun b hb => same b hb.2.1 hb.2.2) (fun b hb => ⟨hb.1, by have := hb.2.1; omega, hnew b hb.2.1 hb.2.2⟩))
    exact (hs.keep (fun b hb => same b hb.2.1 hb.2.2)).weak (fun b hb => ⟨hb.1, by have := hb.2.1; omega, hnew b hb.2.1 hb.2.2⟩)
theorem KsMix.slice {B lo : Nat} {W : World} {v : Value} {G : Fo} (h : KsMix B lo W v G) : ∃ x c, v = .slice x G.len c ∧ SlIn W (fun b => (b < B ∨ lo ≤ b) ∧ b < W.heap.size) G x c := by
  obtain ⟨xs, h1, h2⟩ := h
  exact RepP.slice h1 (h2.keep (fun _ _ => rfl) (fun b hb => ⟨hb.1, hb.2.1⟩)) rfl (fun g hg => ⟨.inr (h1.lt g hg).1, (h1.lt g hg).2⟩)
def RpPost (B : Nat) (T : Fo) (w : World) (e : Ending) (w' : World) : Prop :=
  ∃ (k n : Int) (F : Fo) (x : Option Addr) (c : Nat), T = .cons k n F .nil ∧ e = .returned (.agg #[.int .i64 k, .int .i64 n, .slice x F.len c]) ∧ SlIn w' (fun b => (b < B ∨ w.heap.size ≤ b) ∧ b < w'.heap.size) F x c ∧ Below w.heap.size w w'
def RpR (w : World) (OB B : Nat) (k n : Int) (G : Fo) (v : Value) (wr : World) : Prop :=
  wr.heap[w.heap.size + 1]? = some (.cells #[.int .i64 0, .int .i64 0, .slice none 0 0] 45 (0, 0)) ∧ wr.heap[OB]? = some (.cells #[.int .i64 k, .int .i64 n, v] 45 (0, 0)) ∧ KsMix B (OB + 1) wr v G ∧ w.heap.size + 1 < OB ∧ B ≤ w.heap.size ∧ Below w.heap.size w wr
theorem RpR.facts {w : World} {OB B : Nat} {k n : Int} {G : Fo} {v : Value} {wr : World} (h : RpR w OB B k n G v wr) :
    wr.cell? ⟨w.heap.size + 1, 0, none⟩ = some (.int .i64 0) ∧ wr.cell? ⟨w.heap.size + 1, 1, none⟩ = some (.int .i64 0) ∧ wr.cell? ⟨w.heap.size + 1, 2, none⟩ = some (.slice none 0 0) ∧ (∀ o, wr.frozen? ⟨w.heap.size + 1, o, none⟩ = false) ∧
    wr.cell? ⟨OB, 0, none⟩ = some (.int .i64 k) ∧ wr.cell? ⟨OB, 1, none⟩ = some (.int .i64 n) ∧ wr.cell? ⟨OB, 2, none⟩ = some v ∧ (∀ o, wr.frozen? ⟨OB, o, none⟩ = false) ∧ OB < wr.heap.size ∧ Below w.heap.size w wr := by
  obtain ⟨h1, h2, _, _, _, h6⟩ := h
  exact ⟨cell_at h1 0, cell_at h1 1, cell_at h1 2, free_of h1, cell_at h2 0, cell_at h2 1, cell_at h2 2, free_of h2, lt_of_block h2, h6⟩
theorem RpR.next {w : World} {OB B : Nat} {k n : Int} {G : Fo} {v : Value} {wr : World} (h : RpR w OB B k n G v wr) (hG : G.len ≤ 1000) {k' n' : Int} {F' : Fo} {w2 : World} {x' : Option Addr} {c' : Nat} (hs : SlIn w2 (fun b => (b < B ∨ wr.heap.size ≤ b) ∧ b < w2.heap.size) F' x' c') (hb : Below wr.heap.size wr w2) :
    w2.cell? ⟨OB, 2, none⟩ = some v ∧ OB < w2.heap.size ∧ ∃ g' cap' w3, (Builtin.append_ #[27, 27] 27 #[v, .slice (some ⟨w2.heap.size, 0, none⟩) 1 1]).run Tryz.prog (w2.alloc (.cells #[.int .i64 k', .int .i64 n', .slice x' F'.len c'] 45)) = .ok (.slice (some ⟨g', 0, none⟩) (G.len + 1) cap') w3 ∧
      w3.cell? ⟨OB, 2, none⟩ = some v ∧ (∀ o, w3.frozen? ⟨OB, o, none⟩ = false) ∧ RpR w OB B k n (G.app (.cons k' n' F' .nil)) (.slice (some ⟨g', 0, none⟩) (G.len + 1) cap') (w3.setCell ⟨OB, 2, none⟩ (.slice (some ⟨g', 0, none⟩) (G.len + 1) cap')) := by
  obtain ⟨h1, h2, h3, h4, h5, h6⟩ := h
  have hlt := lt_of_block h2
  have e1 := (hb.block _ (lt_of_block h1)).trans h1
  have e2 := (hb.block _ hlt).trans h2
  have hz := hb.size
  obtain ⟨g', cap', w3, hrun, k3, same, z3, o1, o2, o3⟩ := (h3.later hb).append k' n' (h3.fresh (by omega) (by omega) hs) 27 hG (by omega) (by omega)
  have nv : ∀ b, b ≤ OB → some b ≠ v.ownBlock := fun b hb e => by have := (h3.lt b e.symm).1; omega
  have f1 := (same _ (lt_of_block e1) (nv _ (by omega))).trans e1
  have f2 := (same _ (lt_of_block e2) (nv _ (by omega))).trans e2
  have n1 : w.heap.size + 1 ≠ OB := by omega
  refine ⟨cell_at e2 2, lt_of_block e2, g', cap', w3, hrun, cell_at f2 2, free_of f2, (Below.heap_setCell _ _ _ _ n1).trans f1, heap_setCell_same w3 _ 2 _ _ _ f2, k3.setLow (by omega) (by omega) 2 _, h4, h5, ?_⟩
  refine ⟨(o1.trans hb.os).trans h6.os, (o2.trans hb.tape).trans h6.tape, (o3.trans hb.output).trans h6.output, ?_, fun q hq => ?_⟩
  · have := h6.size; simp; omega
  · have hq6 := h6.size
    have nq : q ≠ OB := by omega
    rw [Below.heap_setCell _ _ _ _ nq, same q (by omega) (nv q (by omega)), hb.block q (by omega)]
    exact h6.block q hq
theorem RpR.done {w : World} {OB B : Nat} {k n : Int} {G : Fo} {v : Value} {wr : World} (h : RpR w OB B k n G v wr) : ∃ x c, v = .slice x G.len c ∧
    RpPost B (.cons k n G .nil) w (.returned (.agg #[.int .i64 k, .int .i64 n, .slice x G.len c])) (((wr.setCell ⟨w.heap.size + 1, 0, none⟩ (.int .i64 k)).setCell ⟨w.heap.size + 1, 1, none⟩ (.int .i64 n)).setCell ⟨w.heap.size + 1, 2, none⟩ (.slice x G.len c)) := by
  obtain ⟨h1, h2, h3, h4, h5, h6⟩ := h
  obtain ⟨x, c, rfl, hsl⟩ := h3.slice
  have hg := set3_only (w := wr) (w.heap.size + 1) (.int .i64 k) (.int .i64 n) (.slice x G.len c)
  refine ⟨x, c, rfl, k, n, G, x, c, rfl, rfl, ?_, ?_⟩
  · exact (hsl.keep (fun b hb => Only.block hg hb.2 (by omega))).weak (fun b hb => ⟨by omega, Nat.lt_of_lt_of_le hb.2 hg.size⟩)
  · exact ⟨hg.os.trans h6.os, hg.tape.trans h6.tape, hg.output.trans h6.output, Nat.le_trans h6.size hg.size, fun q hq => (Only.block hg (by have := h6.size; omega) (by omega)).trans (h6.block q hq)⟩
end Go.Proofs.YtnfhpombnbpdcaaGreat
