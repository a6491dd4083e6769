/- Bytes in memory, that a slice holds. No condition but those that stand in each statement. -/
import Derived.Test.YtnfmcenedohdnaaTree
namespace Go.Proofs.Ytnfmcenedohdnaa
open Go.RowKit

/-- The slice (a, cap) holds so many bytes. -/
def ByIn (w : World) (P : Nat → Prop) (len : Nat) (a : Option Addr) (cap : Nat) : Prop :=
  len ≤ cap ∧ cap ≤ maxLen ∧ (a = none → cap = 0) ∧ (0 < len → ∃ b o, a = some ⟨b, o, none⟩ ∧ P b ∧ ∀ i, i < len → ∃ z : Int, 0 ≤ z ∧ z < 256 ∧ w.cell? ⟨b, o + i, none⟩ = some (.int .u8 z))
theorem ByIn.keep {w w' : World} {P : Nat → Prop} (hP : ∀ b, P b → w'.heap[b]? = w.heap[b]?) {len : Nat} {a : Option Addr} {cap : Nat} (h : ByIn w P len a cap) : ByIn w' P len a cap := by
  obtain ⟨h1, h2, h3, h4⟩ := h
  refine ⟨h1, h2, h3, fun hx => ?_⟩
  obtain ⟨b, o, e, hb, hf⟩ := h4 hx
  refine ⟨b, o, e, hb, fun i hi => ?_⟩
  obtain ⟨z, z0, z1, hz⟩ := hf i hi
  exact ⟨z, z0, z1, (World.cell?_of_block (w := w) (hP b hb)).trans hz⟩
theorem ByIn.below {w w' : World} {B : Nat} {len : Nat} {a : Option Addr} {cap : Nat} (hb : Below B w w') (h : ByIn w (· < B) len a cap) : ByIn w' (· < B) len a cap := h.keep (fun b h => hb.block b h)
theorem ByIn.at {w : World} {P : Nat → Prop} {len : Nat} {a : Option Addr} {cap i : Nat} (h : ByIn w P len a cap) (hi : i < len) : ∃ (b o : Nat) (z : Int), a = some ⟨b, o, none⟩ ∧ P b ∧ 0 ≤ z ∧ z < 256 ∧ w.cell? ⟨b, o + i, none⟩ = some (.int .u8 z) := by
  obtain ⟨b, o, e, hb, hf⟩ := h.2.2.2 (by omega)
  obtain ⟨z, z0, z1, hz⟩ := hf i hi
  exact ⟨b, o, z, e, hb, z0, z1, hz⟩
theorem ByIn.lenLe {w : World} {P : Nat → Prop} {len : Nat} {a : Option Addr} {cap : Nat} (h : ByIn w P len a cap) : len ≤ 9223372036854775807 := by
  have h1 := h.1
  have h2 := h.2.1
  unfold maxLen at h2
  omega
end Go.Proofs.Ytnfmcenedohdnaa
