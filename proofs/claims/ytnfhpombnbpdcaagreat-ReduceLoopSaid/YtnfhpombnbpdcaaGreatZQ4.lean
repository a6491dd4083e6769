/- Spec. No condition but those that stand in each statement. -/
import Derived.Test.YtnfhpombnbpdcaaGreatZQ1
namespace Go.Proofs.YtnfhpombnbpdcaaGreat
open Go
def kidsOf (k : Int) : Int := if k = 1 ∨ k = 5 ∨ k = 6 then 0 else if k = 2 then 1 else if k = 3 ∨ k = 4 then 2 else -1
def limOf (p m k : Int) : Int := if k = 5 then p else if k = 6 then m else 1
def fitsB (p m k n : Int) (len : Nat) : Bool := decide ((len : Int) = kidsOf k) && (decide (0 ≤ n) && decide (n < limOf p m k))
def nodesF : Fo → Int → Int → Int
  | .nil, _, n => n
  | .cons _ _ ks r, most, n => if n < most then nodesF r most (n + nodesF ks (most - n) 1) else n
theorem nodesF_eq : ∀ (f : Fo) (most n : Int), 1 ≤ n → n ≤ most → nodesF f most n = min most (n + f.size)
  | .nil, most, n, h1, h2 => by simp [nodesF, Fo.size]; omega
  | .cons _ _ ks r, most, n, h1, h2 => by
    unfold nodesF
    split
    · rename_i h
      rw [nodesF_eq ks (most - n) 1 (by omega) (by omega), nodesF_eq r most _ (by omega) (by omega)]
      simp only [Fo.size]; omega
    · simp only [Fo.size]; omega
theorem nodesF_stop (k n : Int) (ks r : Fo) {most c : Int} (h : ¬ c < most) : nodesF (.cons k n ks r) most c = c := if_neg h
theorem nodesF_go (k n : Int) (ks r : Fo) {most c : Int} (h : c < most) : nodesF (.cons k n ks r) most c = nodesF r most (c + nodesF ks (most - c) 1) := if_pos h
def rNode (p m k n : Int) (len : Nat) (d : Int) (sub : Bool) : Bool :=
  if d < 1 then false else if (len : Int) ≠ kidsOf k then false else if k = 5 then decide (0 ≤ n ∧ n < p) else if k = 6 then decide (0 ≤ n ∧ n < m) else sub && decide (n = 0)
def rAll (p m : Int) : Fo → Int → Bool
  | .nil, _ => true
  | .cons k n ks r, d => rNode p m k n ks.len d (rAll p m ks (d - 1)) && rAll p m r d
def cAll (p m : Int) : Fo → Nat → Nat → Option Nat
  | .nil, _, left => some left
  | .cons k n ks r, d, left => match (if d = 0 ∨ left = 0 ∨ fitsB p m k n ks.len = false then none else cAll p m ks (d - 1) (left - 1)) with
    | none => none
    | some l => cAll p m r d l
theorem rNode_fits (p m k n : Int) (len : Nat) (d : Int) (sub : Bool) (hd : 1 ≤ d) (hs : (len : Int) = 0 → sub = true) : rNode p m k n len d sub = (fitsB p m k n len && sub) := by
  unfold rNode fitsB limOf
  rw [if_neg (by omega)]
  by_cases hl : (len : Int) = kidsOf k
  · rw [if_neg (by simpa using hl)]
    by_cases h5 : k = 5
    · have : sub = true := hs (by rw [hl]; simp [kidsOf, h5])
      subst this
      simp [h5, hl, kidsOf, Bool.and_comm]
    · by_cases h6 : k = 6
      · have : sub = true := hs (by rw [hl]; simp [kidsOf, h6])
        subst this
        simp [h6, hl, kidsOf]
      · simp only [if_neg h5, if_neg h6, hl, decide_true, Bool.true_and]
        rw [Bool.and_comm sub]
        congr 1
        rw [Bool.eq_iff_iff]
        simp
        omega
  · rw [if_pos (by simpa using hl)]
    simp [hl]
theorem rAll_nil_of (p m : Int) : ∀ (f : Fo) (d : Int), f.len = 0 → rAll p m f d = true := fun f d h => by rw [Fo.len_zero h]; rfl
theorem cAll_eq (p m : Int) : ∀ (f : Fo) (d left : Nat), cAll p m f d left = if rAll p m f d = true ∧ f.size ≤ left then some (left - f.size) else none
  | .nil, d, left => by simp [cAll, rAll, Fo.size]
  | .cons k n ks r, d, left => by
    unfold cAll rAll
    by_cases hd : d = 0
    · subst hd
      have : rNode p m k n ks.len ((0 : Nat) : Int) (rAll p m ks (((0 : Nat) : Int) - 1)) = false := by simp [rNode]
      rw [this]; simp
    · rw [rNode_fits p m k n ks.len d _ (by omega) (fun h => rAll_nil_of p m ks _ (by omega))]
      have e : ((d : Int) - 1) = ((d - 1 : Nat) : Int) := by omega
      rw [e]
      by_cases hl : left = 0
      · simp [hl, Fo.size]
      · cases hf : fitsB p m k n ks.len with
        | false => simp
        | true =>
          simp only [hd, hl, false_or, Bool.true_and, Bool.true_eq_false, if_false]
          rw [cAll_eq p m ks (d - 1) (left - 1)]
          by_cases h1 : rAll p m ks ((d - 1 : Nat) : Int) = true ∧ ks.size ≤ left - 1
          · rw [if_pos h1]
            simp only
            rw [cAll_eq p m r d _]
            by_cases h2 : rAll p m r d = true ∧ r.size ≤ left - 1 - ks.size
            · rw [if_pos h2, if_pos (by simp [h1.1, h2.1, Fo.size]; omega)]; simp [Fo.size]; omega
            · rw [if_neg h2, if_neg (by simp only [h1.1, Bool.true_and, Fo.size]; rintro ⟨h3, h4⟩; exact h2 ⟨h3, by omega⟩)]
          · rw [if_neg h1]
            simp only
            rw [if_neg (by simp only [Bool.and_eq_true, Fo.size]; rintro ⟨⟨h2, h3⟩, h4⟩; exact h1 ⟨h2, by omega⟩)]
def rightB (p m k n : Int) (ks : Fo) : Bool :=
  decide (0 ≤ p ∧ p ≤ 5 ∧ 0 ≤ m ∧ m ≤ 10) && (decide (ks.size + 1 ≤ 100) && rNode p m k n ks.len 12 (rAll p m ks 11))
end Go.Proofs.YtnfhpombnbpdcaaGreat
