/- A least set of clauses without a model, as plain functions of lists. No condition but those that stand in each statement. -/
import Derived.Test.YtnfmcenedohdnaaJsvf
namespace Go.Proofs.Ytnfmcenedohdnaa
open Go.RowKit

/-- Is there a model? -/
def HasM (V : Nat) (l : List Cl) : Prop := ∃ b, LeM (zerosJ V) b ∧ ModJ l b
open Classical in
noncomputable def posB (vars : Int) (l : List Cl) : Bool := hrB vars l && decide (HasM vars.toNat l)
open Classical in
/-- Solve tells just that. -/
theorem SvI.told {vars : Int} {l : List Cl} {a : List Int} {is : Bool} {n er : Int} (h : SvI vars l a is n er) : is = posB vars l ∧ er = (if hrB vars l = true then 0 else 1) := by
  rcases h with ⟨hr, ht, rfl⟩ | ⟨hr, _, rfl, _, rfl⟩
  · rw [if_pos hr]
    refine ⟨?_, rfl⟩
    obtain ⟨v1, v2, _, _⟩ := hrB_of hr
    obtain ⟨V, rfl⟩ : ∃ V : Nat, vars = (V : Int) := ⟨vars.toNat, by omega⟩
    unfold posB
    rw [hr, Bool.true_and]
    rcases sv_cases hr ht with ⟨rfl, h1, _⟩ | ⟨rfl, _, h1⟩
    · exact (decide_eq_true (p := HasM (V : Int).toNat l) ⟨a, h1.1, h1.2.1⟩).symm
    · refine (decide_eq_false (p := HasM (V : Int).toNat l) ?_).symm
      rintro ⟨b, hb, hm⟩
      exact h1 b hb hm
  · rw [hr]
    exact ⟨by unfold posB; rw [hr]; rfl, rfl⟩
open Classical in
theorem posB_sub {vars : Int} {l k : List Cl} (hr : hrB vars k = true) (h : posB vars l = true) (hs : ∀ c ∈ k, c ∈ l) : posB vars k = true := by
  unfold posB at h ⊢
  rw [hr]
  simp only [Bool.and_eq_true, decide_eq_true_eq, Bool.true_and] at h ⊢
  obtain ⟨_, b, h1, h2⟩ := h
  exact ⟨b, h1, h2.sub hs⟩
theorem posB_right {vars : Int} {l : List Cl} (h : hrB vars l = false) : posB vars l = false := by unfold posB; rw [h]; rfl

/-- The clauses of places. -/
def pickL (l : List Cl) (ps : List Int) : List Cl := ps.map fun p => l.getD p.toNat cl0
theorem pickL_len (l : List Cl) (ps : List Int) : (pickL l ps).length = ps.length := by simp [pickL]
theorem pickL_take (l : List Cl) {ps : List Int} {k : Nat} (hk : k < ps.length) : pickL l (ps.take (k + 1)) = pickL l (ps.take k) ++ [l.getD (ps.getD k 0).toNat cl0] := by
  rw [take_getD ps 0 hk]; simp [pickL]
/-- All places are places of the list. -/
def InP (n : Nat) (ps : List Int) : Prop := ∀ p ∈ ps, 0 ≤ p ∧ p < (n : Int)
theorem pickL_mem {l : List Cl} {ps : List Int} (h : InP l.length ps) {c : Cl} (hc : c ∈ pickL l ps) : c ∈ l := by
  obtain ⟨p, hp, rfl⟩ := List.mem_map.1 hc
  have := h p hp
  exact getD_mem cl0 (by omega)
/-- The first places. -/
def uptoK : Nat → List Int
  | 0 => []
  | k + 1 => uptoK k ++ [(k : Int)]
theorem uptoK_len : ∀ k, (uptoK k).length = k
  | 0 => rfl
  | k + 1 => by simp [uptoK, uptoK_len k]
theorem uptoK_mem {p : Int} : ∀ {k : Nat}, p ∈ uptoK k ↔ 0 ≤ p ∧ p < (k : Int)
  | 0 => ⟨fun h => (by cases h), fun h => (by omega)⟩
  | k + 1 => by
    unfold uptoK
    rw [List.mem_append, uptoK_mem, List.mem_singleton]
    omega
/-- All but one. -/
def lessK (i : Int) (now : List Int) : List Int := now.filter fun p => decide (p ≠ i)
theorem lessK_take {i : Int} {now : List Int} {k : Nat} (hk : k < now.length) : lessK i (now.take (k + 1)) = lessK i (now.take k) ++ if now.getD k 0 = i then [] else [now.getD k 0] := by
  rw [take_getD now 0 hk]
  unfold lessK
  rw [List.filter_append]
  generalize now.getD k 0 = p
  by_cases h : p = i <;> simp [h]
theorem lessK_len (i : Int) (now : List Int) : (lessK i now).length ≤ now.length := List.length_filter_le _ _
theorem lessK_in {i : Int} {now : List Int} {n : Nat} (h : InP n now) : InP n (lessK i now) := fun p hp => h p (List.mem_filter.1 hp).1
/-- What remains when so many have been tried. -/
noncomputable def coreK (vars : Int) (l : List Cl) : Nat → List Int
  | 0 => uptoK l.length
  | i + 1 => if posB vars (pickL l (lessK i (coreK vars l i))) = true then coreK vars l i else lessK i (coreK vars l i)
theorem coreK_len (vars : Int) (l : List Cl) : ∀ i, (coreK vars l i).length ≤ l.length
  | 0 => by show (uptoK l.length).length ≤ l.length; rw [uptoK_len]; exact Nat.le_refl _
  | i + 1 => by
    have ih := coreK_len vars l i
    unfold coreK
    split
    · exact ih
    · exact Nat.le_trans (lessK_len _ _) ih
theorem coreK_in (vars : Int) (l : List Cl) : ∀ i, InP l.length (coreK vars l i)
  | 0 => fun p hp => uptoK_mem.1 hp
  | i + 1 => by
    have ih := coreK_in vars l i
    unfold coreK
    split
    · exact ih
    · exact lessK_in ih
/-- What Core tells. -/
noncomputable def coreR (vars : Int) (l : List Cl) : List Int := if hrB vars l = true then (if posB vars l = true then [] else coreK vars l l.length) else []
def coreE (vars : Int) (l : List Cl) : Int := if hrB vars l = true then 0 else 1
/-- Are places ascending, and places of the list? -/
def okK (n : Nat) (ps : List Int) (k : Nat) : Bool := decide (0 ≤ ps.getD k 0) && decide (ps.getD k 0 < (n : Int)) && (decide (k = 0) || decide (ps.getD (k - 1) 0 < ps.getD k 0))
def okP (n : Nat) (ps : List Int) : Prop := ∀ k, k < ps.length → okK n ps k = true
instance (n : Nat) (ps : List Int) : Decidable (okP n ps) := Nat.decidableBallLT _ _
theorem okP.in {n : Nat} {ps : List Int} (h : okP n ps) : InP n ps := fun p hp => by
  obtain ⟨k, hk, rfl⟩ := List.getElem_of_mem hp
  have := h k hk
  simp only [okK, Bool.and_eq_true, decide_eq_true_eq, List.getD_eq_getElem?_getD, List.getElem?_eq_getElem hk, Option.getD_some] at this
  exact ⟨this.1.1, this.1.2⟩
/-- What Proves tells. -/
noncomputable def provB (vars : Int) (l : List Cl) (ps : List Int) : Bool := hrB vars l && (decide (okP l.length ps) && !posB vars (pickL l ps))
/-- Ascending places are no more than the list has. -/
theorem okP.len {n : Nat} {ps : List Int} (h : okP n ps) : ps.length ≤ n := by
  have key : ∀ k, k < ps.length → (k : Int) ≤ ps.getD k 0 := by
    intro k
    induction k with
    | zero =>
      intro hk
      have := h 0 hk
      simp only [okK, Bool.and_eq_true, decide_eq_true_eq] at this
      omega
    | succ k ih =>
      intro hk
      have h1 := ih (by omega)
      have := h (k + 1) hk
      simp only [okK, Bool.and_eq_true, Bool.or_eq_true, decide_eq_true_eq, Nat.add_sub_cancel] at this
      omega
  rcases Nat.eq_zero_or_pos ps.length with h0 | h0
  · omega
  · have h1 := key (ps.length - 1) (by omega)
    have := h (ps.length - 1) (by omega)
    simp only [okK, Bool.and_eq_true, decide_eq_true_eq] at this
    omega
theorem hr_pick {vars : Int} {l : List Cl} {ps : List Int} (hr : hrB vars l = true) (hi : InP l.length ps) (hl : ps.length ≤ l.length) : hrB vars (pickL l ps) = true := by
  obtain ⟨v1, v2, v3, v4⟩ := hrB_of hr
  obtain ⟨V, rfl⟩ : ∃ V : Nat, vars = (V : Int) := ⟨vars.toNat, by omega⟩
  exact hrB_mk (by omega) (by omega) (by rw [pickL_len]; omega) (List.all_eq_true.2 fun d hd => List.all_eq_true.1 v4 d (pickL_mem hi hd))
end Go.Proofs.Ytnfmcenedohdnaa
