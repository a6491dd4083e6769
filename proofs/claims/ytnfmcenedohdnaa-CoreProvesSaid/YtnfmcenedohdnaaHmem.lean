/- Atoms and clauses in memory: how they lie there, and that they lie there still when only other memory has changed. No condition but those that stand in each statement. -/
import Derived.Test.YtnfmcenedohdnaaHspec
import Derived.Test.YtnfmcenedohdnaaCell
namespace Go.Proofs.Ytnfmcenedohdnaa
open Go.RowKit

/-- The slice (a, cap) holds the atoms. -/
def AtsIn (w : World) (P : Nat → Prop) (l : List At) (a : Option Addr) (cap : Nat) : Prop :=
  l.length ≤ cap ∧ cap ≤ maxLen ∧ (a = none → cap = 0) ∧ (0 < l.length → ∃ b o, a = some ⟨b, o, none⟩ ∧ P b ∧
    ∀ i, i < l.length → w.cell? ⟨b, o + i * 2, none⟩ = some (.int .i64 (l.getD i at0).1) ∧ w.cell? ⟨b, o + i * 2 + 1, none⟩ = some (.int .i64 (l.getD i at0).2))
/-- The slice (a, cap) holds the clauses. -/
def ClsIn (w : World) (P : Nat → Prop) (l : List Cl) (a : Option Addr) (cap : Nat) : Prop :=
  l.length ≤ cap ∧ cap ≤ maxLen ∧ (a = none → cap = 0) ∧ (0 < l.length → ∃ b o, a = some ⟨b, o, none⟩ ∧ P b ∧
    ∀ i, i < l.length → (∃ a' c', w.cell? ⟨b, o + i * 3, none⟩ = some (.slice a' (l.getD i cl0).1.length c') ∧ AtsIn w P (l.getD i cl0).1 a' c') ∧
      w.cell? ⟨b, o + i * 3 + 1, none⟩ = some (.int .i64 (l.getD i cl0).2.1) ∧ w.cell? ⟨b, o + i * 3 + 2, none⟩ = some (.int .i64 (l.getD i cl0).2.2))
theorem AtsIn.some {w : World} {P : Nat → Prop} {l : List At} {a : Option Addr} {cap : Nat} (h : AtsIn w P l a cap) (hl : 0 < l.length) :
    ∃ b o, a = .some ⟨b, o, none⟩ ∧ P b ∧ ∀ i, i < l.length → w.cell? ⟨b, o + i * 2, none⟩ = .some (.int .i64 (l.getD i at0).1) ∧ w.cell? ⟨b, o + i * 2 + 1, none⟩ = .some (.int .i64 (l.getD i at0).2) := h.2.2.2 hl
theorem AtsIn.len {w : World} {P : Nat → Prop} {l : List At} {a : Option Addr} {cap : Nat} (h : AtsIn w P l a cap) : l.length ≤ 9223372036854775807 := by
  have h1 := h.1
  have h2 := h.2.1
  unfold maxLen at h2
  omega
theorem AtsIn.keep {w w' : World} {P : Nat → Prop} (hP : ∀ b, P b → w'.heap[b]? = w.heap[b]?) {l : List At} {a : Option Addr} {cap : Nat} (h : AtsIn w P l a cap) : AtsIn w' P l a cap := by
  obtain ⟨h1, h2, h3, h4⟩ := h
  refine ⟨h1, h2, h3, fun hx => ?_⟩
  obtain ⟨b, o, e, hb, hf⟩ := h4 hx
  exact ⟨b, o, e, hb, fun i hi => ⟨(World.cell?_of_block (w := w) (hP b hb)).trans (hf i hi).1, (World.cell?_of_block (w := w) (hP b hb)).trans (hf i hi).2⟩⟩
theorem AtsIn.weak {w : World} {P Q : Nat → Prop} (hB : ∀ b, P b → Q b) {l : List At} {a : Option Addr} {cap : Nat} (h : AtsIn w P l a cap) : AtsIn w Q l a cap := by
  obtain ⟨h1, h2, h3, h4⟩ := h
  refine ⟨h1, h2, h3, fun hx => ?_⟩
  obtain ⟨b, o, e, hb, hf⟩ := h4 hx
  exact ⟨b, o, e, hB _ hb, hf⟩
theorem AtsIn.below {w w' : World} {B : Nat} {l : List At} {a : Option Addr} {cap : Nat} (hb : Below B w w') (h : AtsIn w (· < B) l a cap) : AtsIn w' (· < B) l a cap := h.keep (fun b h => hb.block b h)
theorem AtsIn.none (w : World) (P : Nat → Prop) : AtsIn w P [] .none 0 := ⟨Nat.le_refl _, Nat.zero_le _, fun _ => rfl, fun hx => by simp at hx⟩
theorem ClsIn.some {w : World} {P : Nat → Prop} {l : List Cl} {a : Option Addr} {cap : Nat} (h : ClsIn w P l a cap) (hl : 0 < l.length) :
    ∃ b o, a = .some ⟨b, o, none⟩ ∧ P b ∧ ∀ i, i < l.length → (∃ a' c', w.cell? ⟨b, o + i * 3, none⟩ = .some (.slice a' (l.getD i cl0).1.length c') ∧ AtsIn w P (l.getD i cl0).1 a' c') ∧
      w.cell? ⟨b, o + i * 3 + 1, none⟩ = .some (.int .i64 (l.getD i cl0).2.1) ∧ w.cell? ⟨b, o + i * 3 + 2, none⟩ = .some (.int .i64 (l.getD i cl0).2.2) := h.2.2.2 hl
theorem ClsIn.len {w : World} {P : Nat → Prop} {l : List Cl} {a : Option Addr} {cap : Nat} (h : ClsIn w P l a cap) : l.length ≤ 9223372036854775807 := by
  have h1 := h.1
  have h2 := h.2.1
  unfold maxLen at h2
  omega
theorem ClsIn.keep {w w' : World} {P : Nat → Prop} (hP : ∀ b, P b → w'.heap[b]? = w.heap[b]?) {l : List Cl} {a : Option Addr} {cap : Nat} (h : ClsIn w P l a cap) : ClsIn w' P l a cap := by
  obtain ⟨h1, h2, h3, h4⟩ := h
  refine ⟨h1, h2, h3, fun hx => ?_⟩
  obtain ⟨b, o, e, hb, hf⟩ := h4 hx
  refine ⟨b, o, e, hb, fun i hi => ?_⟩
  obtain ⟨⟨a', c', q1, q2⟩, q3, q4⟩ := hf i hi
  exact ⟨⟨a', c', (World.cell?_of_block (w := w) (hP b hb)).trans q1, q2.keep hP⟩, (World.cell?_of_block (w := w) (hP b hb)).trans q3, (World.cell?_of_block (w := w) (hP b hb)).trans q4⟩
theorem ClsIn.weak {w : World} {P Q : Nat → Prop} (hB : ∀ b, P b → Q b) {l : List Cl} {a : Option Addr} {cap : Nat} (h : ClsIn w P l a cap) : ClsIn w Q l a cap := by
  obtain ⟨h1, h2, h3, h4⟩ := h
  refine ⟨h1, h2, h3, fun hx => ?_⟩
  obtain ⟨b, o, e, hb, hf⟩ := h4 hx
  refine ⟨b, o, e, hB _ hb, fun i hi => ?_⟩
  obtain ⟨⟨a', c', q1, q2⟩, q3, q4⟩ := hf i hi
  exact ⟨⟨a', c', q1, q2.weak hB⟩, q3, q4⟩
theorem ClsIn.below {w w' : World} {B : Nat} {l : List Cl} {a : Option Addr} {cap : Nat} (hb : Below B w w') (h : ClsIn w (· < B) l a cap) : ClsIn w' (· < B) l a cap := h.keep (fun b h => hb.block b h)
theorem ClsIn.mono {w : World} {B B' : Nat} (hB : B ≤ B') {l : List Cl} {a : Option Addr} {cap : Nat} (h : ClsIn w (· < B) l a cap) : ClsIn w (· < B') l a cap := h.weak (fun _ h => Nat.lt_of_lt_of_le h hB)
theorem ClsIn.none (w : World) (P : Nat → Prop) : ClsIn w P [] .none 0 := ⟨Nat.le_refl _, Nat.zero_le _, fun _ => rfl, fun hx => by simp at hx⟩
theorem IntsIn.mono {w : World} {B B' : Nat} (hB : B ≤ B') {l : List Int} {a : Option Addr} {cap : Nat} (h : IntsIn w (· < B) l a cap) : IntsIn w (· < B') l a cap := h.weak (fun _ h => Nat.lt_of_lt_of_le h hB)
/-- The clause's value. -/
def clV (c : Cl) (a : Option Addr) (cap : Nat) : Value := .agg #[.slice a c.1.length cap, .int .i64 c.2.1, .int .i64 c.2.2]
def atV (x : At) : Value := .agg #[.int .i64 x.1, .int .i64 x.2]
end Go.Proofs.Ytnfmcenedohdnaa
