/- Lists of numbers in memory, and whether all are from 0 to 2^40. No condition but those that stand in each statement. -/
import Derived.Test.YtnfmcenedohdnaaTree
namespace Go.Proofs.Ytnfmcenedohdnaa
open Go.RowKit

/-- The slice (a, cap) holds the numbers. -/
def IntsIn (w : World) (P : Nat → Prop) (l : List Int) (a : Option Addr) (cap : Nat) : Prop :=
  l.length ≤ cap ∧ cap ≤ maxLen ∧ (a = none → cap = 0) ∧ (0 < l.length → ∃ b o, a = some ⟨b, o, none⟩ ∧ P b ∧ ∀ i, i < l.length → w.cell? ⟨b, o + i, none⟩ = some (.int .i64 (l.getD i 0)))
theorem IntsIn.some {w : World} {P : Nat → Prop} {l : List Int} {a : Option Addr} {cap : Nat} (h : IntsIn w P l a cap) (hl : 0 < l.length) :
    ∃ b o, a = .some ⟨b, o, none⟩ ∧ P b ∧ ∀ i, i < l.length → w.cell? ⟨b, o + i, none⟩ = .some (.int .i64 (l.getD i 0)) := h.2.2.2 hl
theorem IntsIn.len {w : World} {P : Nat → Prop} {l : List Int} {a : Option Addr} {cap : Nat} (h : IntsIn w P l a cap) : l.length ≤ 9223372036854775807 := by
  have h1 := h.1
  have h2 := h.2.1
  unfold maxLen at h2
  omega
theorem IntsIn.keep {w w' : World} {P : Nat → Prop} (hP : ∀ b, P b → w'.heap[b]? = w.heap[b]?) {l : List Int} {a : Option Addr} {cap : Nat} (h : IntsIn w P l a cap) : IntsIn w' P l a cap := by
  obtain ⟨h1, h2, h3, h4⟩ := h
  refine ⟨h1, h2, h3, fun hx => ?_⟩
  obtain ⟨b, o, e, hb, hf⟩ := h4 hx
  exact ⟨b, o, e, hb, fun i hi => (World.cell?_of_block (w := w) (hP b hb)).trans (hf i hi)⟩
theorem IntsIn.weak {w : World} {P Q : Nat → Prop} (hB : ∀ b, P b → Q b) {l : List Int} {a : Option Addr} {cap : Nat} (h : IntsIn w P l a cap) : IntsIn w Q l a cap := by
  obtain ⟨h1, h2, h3, h4⟩ := h
  refine ⟨h1, h2, h3, fun hx => ?_⟩
  obtain ⟨b, o, e, hb, hf⟩ := h4 hx
  exact ⟨b, o, e, hB _ hb, hf⟩
theorem IntsIn.below {w w' : World} {B : Nat} {l : List Int} {a : Option Addr} {cap : Nat} (hb : Below B w w') (h : IntsIn w (· < B) l a cap) : IntsIn w' (· < B) l a cap := h.keep (fun b h => hb.block b h)
theorem IntsIn.none (w : World) (P : Nat → Prop) : IntsIn w P [] .none 0 := ⟨Nat.le_refl _, Nat.zero_le _, fun _ => rfl, fun hx => by simp at hx⟩
theorem IntsIn.mk {w : World} {P : Nat → Prop} {l : List Int} {b o cap : Nat} (h1 : l.length ≤ cap) (h2 : cap ≤ 1000000) (hP : P b) (hf : ∀ i, i < l.length → w.cell? ⟨b, o + i, .none⟩ = .some (.int .i64 (l.getD i 0))) : IntsIn w P l (.some ⟨b, o, .none⟩) cap :=
  ⟨h1, (by unfold maxLen; omega), (fun h => by cases h), (fun _ => ⟨b, o, rfl, hP, hf⟩)⟩

/-- All are from 0 to 2^40. -/
def natsB (l : List Int) : Bool := l.all fun x => decide (0 ≤ x) && decide (x ≤ 1099511627776)
theorem natsB_drop {l : List Int} {k : Nat} (h : k < l.length) : natsB (l.drop k) = ((decide (0 ≤ l.getD k 0) && decide (l.getD k 0 ≤ 1099511627776)) && natsB (l.drop (k + 1))) := by
  rw [List.drop_eq_getElem_cons h]
  have : l.getD k 0 = l[k] := by simp [List.getD_eq_getElem?_getD, h]
  rw [this]
  rfl
theorem natsB_end {l : List Int} {k : Nat} (h : ¬ k < l.length) : natsB (l.drop k) = true := by
  rw [List.drop_eq_nil_of_le (by omega)]; rfl
theorem natsB_low {l : List Int} {k : Nat} (h : k < l.length) (h1 : l.getD k 0 < 0) : natsB (l.drop k) = false := by
  rw [natsB_drop h, decide_eq_false (by omega)]; rfl
theorem natsB_high {l : List Int} {k : Nat} (h : k < l.length) (h1 : 1099511627776 < l.getD k 0) : natsB (l.drop k) = false := by
  rw [natsB_drop h, decide_eq_false (p := l.getD k 0 ≤ 1099511627776) (by omega)]; simp
theorem natsB_next {l : List Int} {k : Nat} (h : k < l.length) (h1 : ¬ l.getD k 0 < 0) (h2 : ¬ 1099511627776 < l.getD k 0) : natsB (l.drop k) = natsB (l.drop (k + 1)) := by
  rw [natsB_drop h, decide_eq_true (by omega), decide_eq_true (p := l.getD k 0 ≤ 1099511627776) (by omega)]; rfl
end Go.Proofs.Ytnfmcenedohdnaa
