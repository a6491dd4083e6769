/- A list of lists of bytes in memory. No condition but those that stand in each statement. -/
import Derived.Test.YtmbopdlmkbbbiaaMaker
namespace Go.Proofs.Ytmbopdlmkbbbiaa
open Go.RowKit

/-- The slice (a, cap) holds so many lists of bytes. -/
def RowsIn (w : World) (P : Nat → Prop) (len : Nat) (a : Option Addr) (cap : Nat) : Prop :=
  len ≤ cap ∧ cap ≤ maxLen ∧ (a = none → cap = 0) ∧ (0 < len → ∃ b o, a = some ⟨b, o, none⟩ ∧ P b ∧ ∀ i, i < len → ∃ (a' : Option Addr) (len' cap' : Nat), w.cell? ⟨b, o + i, none⟩ = some (.slice a' len' cap') ∧ U8In w P len' a' cap')
theorem U8In.keep' {w w' : World} {P : Nat → Prop} (hP : ∀ b, P b → w'.heap[b]? = w.heap[b]?) {len : Nat} {a : Option Addr} {cap : Nat} (h : U8In w P len a cap) : U8In w' P len a cap := by
  obtain ⟨h1, h2, h3, h4⟩ := h
  refine ⟨h1, h2, h3, fun h0 => ?_⟩
  obtain ⟨b, o, ha, hb, hc⟩ := h4 h0
  refine ⟨b, o, ha, hb, fun i hi => ?_⟩
  obtain ⟨x, h5, h6, h7⟩ := hc i hi
  exact ⟨x, h5, h6, (World.cell?_of_block (w := w) (hP b hb)).trans h7⟩
theorem RowsIn.below {w w' : World} {B len : Nat} {a : Option Addr} {cap : Nat} (hb : Below B w w') (h : RowsIn w (· < B) len a cap) : RowsIn w' (· < B) len a cap := by
  obtain ⟨h1, h2, h3, h4⟩ := h
  refine ⟨h1, h2, h3, fun h0 => ?_⟩
  obtain ⟨b, o, ha, hbB, hc⟩ := h4 h0
  refine ⟨b, o, ha, hbB, fun i hi => ?_⟩
  obtain ⟨a', l', c', h5, h6⟩ := hc i hi
  exact ⟨a', l', c', (bcell hb _ _ hbB).trans h5, h6.keep' (fun b hb' => hb.block b hb')⟩
theorem RowsIn.len {w : World} {P : Nat → Prop} {len : Nat} {a : Option Addr} {cap : Nat} (h : RowsIn w P len a cap) : len ≤ 9223372036854775807 := by
  have h1 := h.1
  have h2 := h.2.1
  unfold maxLen at h2
  omega
end Go.Proofs.Ytmbopdlmkbbbiaa
