/- Cell. No condition but those that stand in each statement. -/
import Derived.Test.YtnfhpombnbpdcaaGreatZQ1
namespace Go.Proofs.YtnfhpombnbpdcaaGreat
open Go.RowKit
theorem cell_at {w : World} {b : Nat} {cs : Array Value} {t : TypeId} (h : w.heap[b]? = some (.cells cs t (0, 0))) (i : Nat) : w.cell? ⟨b, i, none⟩ = cs[i]? := by simp [World.cell?, h]
theorem Only.refl (w : World) (C : Nat) : w.grownBy w (some C) := ⟨rfl, rfl, rfl, Nat.le_refl _, fun _ _ _ => rfl⟩
theorem Only.draws {w w' : World} {C : Nat} (h : w.grownBy w' (some C)) (n : Nat) : w.grownBy (w'.drewN n) (some C) := ⟨h.os, h.tape, h.output, h.size, h.block⟩
theorem FoIn.cells {w w' : World} {P : Nat → Prop} (hP : ∀ b, P b → w'.heap[b]? = w.heap[b]?) : ∀ (f : Fo) (b o : Nat), (∀ j, j < f.len * 3 → w'.cell? ⟨b, o + j, none⟩ = w.cell? ⟨b, o + j, none⟩) → FoIn w P f b o → FoIn w' P f b o
  | .nil, _, _, _, _ => trivial
  | .cons k n kids rest, b, o, hc, hf => by
    obtain ⟨h1, h2, ⟨a, cap, h3, hs⟩, h8⟩ := hf.first
    have hl : (Fo.cons k n kids rest).len * 3 = rest.len * 3 + 3 := by simp only [Fo.len]; omega
    refine FoIn.push ((hc 0 (by omega)).trans h1) ((hc 1 (by omega)).trans h2) ((hc 2 (by omega)).trans h3) (hs.keep hP) (FoIn.cells hP rest b (o + 3) (fun j hj => ?_) h8)
    have := hc (j + 3) (by omega)
    rwa [show o + 3 + j = o + (j + 3) by omega]
theorem Only.past {w w1 w2 : World} {M R : Nat} (h : w.grownBy w1 (some M)) (k : w1.grownBy w2 (some R)) (hR : w.heap.size ≤ R) : w.grownBy w2 (some M) :=
  ⟨k.os.trans h.os, k.tape.trans h.tape, k.output.trans h.output, Nat.le_trans h.size k.size, fun i hi hne => (Only.block k (Nat.lt_of_lt_of_le hi h.size) (by omega)).trans (h.block i hi hne)⟩
theorem set3_only {w : World} (R : Nat) (x y z : Value) : w.grownBy (((w.setCell ⟨R, 0, none⟩ x).setCell ⟨R, 1, none⟩ y).setCell ⟨R, 2, none⟩ z) (some R) := Only.after (Only.after (Only.set _ _ _ _) (Only.set _ _ _ _)) (Only.set _ _ _ _)
end Go.Proofs.YtnfhpombnbpdcaaGreat
