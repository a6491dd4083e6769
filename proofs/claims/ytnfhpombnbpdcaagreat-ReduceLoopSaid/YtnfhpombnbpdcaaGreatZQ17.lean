/- Tspec. No condition but those that stand in each statement. -/
import Derived.Test.YtnfhpombnbpdcaaGreatZQ16
import Derived.Test.YtnfhpombnbpdcaaGreatZQ4
namespace Go.Proofs.YtnfhpombnbpdcaaGreat
open Go
def tkids (k : Int) : Int := if k = 4 ∨ k = 5 ∨ k = 6 then 2 else if k = 7 then 3 else if k = 1 ∨ k = 2 ∨ k = 3 then 0 else -1
def bindK (k : Int) (i : Nat) : Int := if (k = 5 ∨ k = 6) ∧ i = 1 ∨ k = 7 ∧ i = 2 then 1 else 0
def tlim (v k : Int) : Int := if k = 1 then v else if k = 3 then 20 else 1
def tlo (k : Int) : Int := if k = 2 then 1 else 0
def thi (k : Int) : Int := if k = 2 then 1 else if k = 3 then 5 else 0
def lvB (p m : Int) : Fo → Bool
  | .nil => true
  | .cons k n ks r => rightB p m k n ks && lvB p m r
def tfitsB (p m v k n : Int) (ls : Fo) (len : Nat) : Bool := decide ((len : Int) = tkids k) && (decide (0 ≤ n) && (decide (n < tlim v k) && (decide (tlo k ≤ (ls.len : Int)) && (decide ((ls.len : Int) ≤ thi k) && lvB p m ls))))
def namedB (p m v k n : Int) (ls : Fo) : Bool := lvB p m ls && (if k = 1 then decide (0 ≤ n) && (decide (n < v) && decide (ls.len = 0)) else if k = 2 then decide (n = 0) && decide (ls.len = 1) else if k = 3 then decide (0 ≤ n) && (decide (n < 20) && decide (ls.len ≤ 5)) else decide (n = 0) && decide (ls.len = 0))
theorem tkids_cases (k : Int) : (1 ≤ k ∧ k ≤ 7 ∧ 0 ≤ tkids k ∧ tkids k ≤ 3) ∨ ((k < 1 ∨ 7 < k) ∧ tkids k = -1) := by
  unfold tkids
  by_cases h : 1 ≤ k ∧ k ≤ 7
  · have hc : k = 1 ∨ k = 2 ∨ k = 3 ∨ k = 4 ∨ k = 5 ∨ k = 6 ∨ k = 7 := by omega
    rcases hc with rfl | rfl | rfl | rfl | rfl | rfl | rfl <;> simp
  · right
    refine ⟨by omega, ?_⟩
    rw [if_neg (by omega), if_neg (by omega), if_neg (by omega)]
theorem named_fits (p m v k n : Int) (ls : Fo) (len : Nat) : (decide ((len : Int) = tkids k) && namedB p m v k n ls) = tfitsB p m v k n ls len := by
  unfold tfitsB namedB
  by_cases hl : (len : Int) = tkids k
  · have hk : k = 1 ∨ k = 2 ∨ k = 3 ∨ k = 4 ∨ k = 5 ∨ k = 6 ∨ k = 7 := by
      have := tkids_cases k; omega
    rw [decide_eq_true hl]
    simp only [Bool.true_and]
    generalize lvB p m ls = b
    clear hl
    cases b
    · simp
    · rcases hk with rfl | rfl | rfl | rfl | rfl | rfl | rfl
      all_goals
        rw [Bool.eq_iff_iff]
        simp [tlim, tlo, thi]
        try omega
  · rw [decide_eq_false hl]; simp
theorem tfits_len {p m v k n : Int} {ls : Fo} {len : Nat} (h : tfitsB p m v k n ls len = true) : (len : Int) = tkids k := by
  unfold tfitsB at h; simp only [Bool.and_eq_true, decide_eq_true_eq] at h; exact h.1
theorem tfits_var {p m v n : Int} {ls : Fo} {len : Nat} (h : tfitsB p m v 1 n ls len = true) : len = 0 ∧ ls = .nil ∧ 0 ≤ n ∧ n < v := by
  unfold tfitsB at h; simp only [Bool.and_eq_true, decide_eq_true_eq] at h
  obtain ⟨h1, h2, h3, h4, h5, h6⟩ := h
  simp [tkids, tlim, thi] at h1 h3 h5
  exact ⟨h1, Fo.len_zero h5, h2, h3⟩
def partsF : Ft → Int → Int → Int
  | .nil, _, n => n
  | .cons _ _ _ ks r, most, n => if n < most then partsF r most (n + partsF ks (most - n) 1) else n
theorem partsF_eq : ∀ (f : Ft) (most n : Int), 1 ≤ n → n ≤ most → partsF f most n = min most (n + f.size)
  | .nil, most, n, h1, h2 => by simp [partsF, Ft.size]; omega
  | .cons _ _ _ ks r, most, n, h1, h2 => by
    unfold partsF
    split
    · rename_i h
      rw [partsF_eq ks (most - n) 1 (by omega) (by omega), partsF_eq r most _ (by omega) (by omega)]
      simp only [Ft.size]; omega
    · simp only [Ft.size]; omega
theorem partsF_stop (k n : Int) (ls : Fo) (ks r : Ft) {most c : Int} (h : ¬ c < most) : partsF (.cons k n ls ks r) most c = c := if_neg h
theorem partsF_go (k n : Int) (ls : Fo) (ks r : Ft) {most c : Int} (h : c < most) : partsF (.cons k n ls ks r) most c = partsF r most (c + partsF ks (most - c) 1) := if_pos h
def tAll (p m : Int) : Ft → Int → Nat → Int → Int → Bool
  | .nil, _, _, _, _ => true
  | .cons k n ls ks r, k0, i, v, d => (decide (1 ≤ d) && (tfitsB p m (v + bindK k0 i) k n ls ks.len && tAll p m ks k 0 (v + bindK k0 i) (d - 1))) && tAll p m r k0 (i + 1) v d
def tOne (p m v d k n : Int) (ls : Fo) (ks : Ft) : Bool := decide (1 ≤ d) && (tfitsB p m v k n ls ks.len && tAll p m ks k 0 v (d - 1))
theorem tAll_cons (p m k n : Int) (ls : Fo) (ks r : Ft) (k0 : Int) (i : Nat) (v d : Int) : tAll p m (.cons k n ls ks r) k0 i v d = (tOne p m (v + bindK k0 i) d k n ls ks && tAll p m r k0 (i + 1) v d) := rfl
def ctAll (p m : Int) : Ft → Int → Nat → Int → Nat → Nat → Option Nat
  | .nil, _, _, _, _, left => some left
  | .cons k n ls ks r, k0, i, v, d, left => match (if d = 0 ∨ left = 0 ∨ tfitsB p m (v + bindK k0 i) k n ls ks.len = false then none else ctAll p m ks k 0 (v + bindK k0 i) (d - 1) (left - 1)) with
    | none => none
    | some l => ctAll p m r k0 (i + 1) v d l
def ctOne (p m v k n : Int) (ls : Fo) (ks : Ft) (d left : Nat) : Option Nat := if d = 0 ∨ left = 0 ∨ tfitsB p m v k n ls ks.len = false then none else ctAll p m ks k 0 v (d - 1) (left - 1)
theorem ctOne_no {p m v k n : Int} {ls : Fo} {ks : Ft} {d left : Nat} (h : d = 0 ∨ left = 0 ∨ tfitsB p m v k n ls ks.len = false) : ctOne p m v k n ls ks d left = none := if_pos h
theorem ctAll_cons (p m k n : Int) (ls : Fo) (ks r : Ft) (k0 : Int) (i : Nat) (v : Int) (d left : Nat) : ctAll p m (.cons k n ls ks r) k0 i v d left = match ctOne p m (v + bindK k0 i) k n ls ks d left with | none => none | some l => ctAll p m r k0 (i + 1) v d l := rfl
theorem ctAll_eq (p m : Int) : ∀ (f : Ft) (k0 : Int) (i : Nat) (v : Int) (d left : Nat), ctAll p m f k0 i v d left = if tAll p m f k0 i v d = true ∧ f.size ≤ left then some (left - f.size) else none
  | .nil, k0, i, v, d, left => by simp [ctAll, tAll, Ft.size]
  | .cons k n ls ks r, k0, i, v, d, left => by
    unfold ctAll tAll
    by_cases hd : d = 0
    · subst hd; simp
    · rw [decide_eq_true (show (1 : Int) ≤ (d : Int) by omega)]
      have e : ((d : Int) - 1) = ((d - 1 : Nat) : Int) := by omega
      rw [e]
      by_cases hl : left = 0
      · simp [hl, Ft.size]
      · cases hf : tfitsB p m (v + bindK k0 i) k n ls ks.len with
        | false => simp
        | true =>
          simp only [hd, hl, false_or, Bool.true_and, Bool.true_eq_false, if_false]
          rw [ctAll_eq p m ks k 0 (v + bindK k0 i) (d - 1) (left - 1)]
          by_cases h1 : tAll p m ks k 0 (v + bindK k0 i) ((d - 1 : Nat) : Int) = true ∧ ks.size ≤ left - 1
          · rw [if_pos h1]
            simp only
            rw [ctAll_eq p m r k0 (i + 1) v d _]
            by_cases h2 : tAll p m r k0 (i + 1) v d = true ∧ r.size ≤ left - 1 - ks.size
            · rw [if_pos h2, if_pos (by simp [h1.1, h2.1, Ft.size]; omega)]; simp [Ft.size]; omega
            · rw [if_neg h2, if_neg (by simp only [h1.1, Bool.true_and, Ft.size]; rintro ⟨h3, h4⟩; exact h2 ⟨h3, by omega⟩)]
          · rw [if_neg h1]
            simp only
            rw [if_neg (by simp only [Bool.and_eq_true, Ft.size]; rintro ⟨⟨h2, h3⟩, h4⟩; exact h1 ⟨h2, by omega⟩)]
theorem ctAll_le (p m : Int) (f : Ft) (k0 : Int) (i : Nat) (v : Int) (d left l : Nat) (h : ctAll p m f k0 i v d left = some l) : l ≤ left := by
  rw [ctAll_eq] at h
  split at h
  · injection h; omega
  · cases h
theorem ctOne_le (p m v k n : Int) (ls : Fo) (ks : Ft) (d left l : Nat) (h : ctOne p m v k n ls ks d left = some l) : l ≤ left := by
  unfold ctOne at h
  split at h
  · cases h
  · have := ctAll_le _ _ _ _ _ _ _ _ _ h; omega
def tRightB (p m v k n : Int) (ls : Fo) (ks : Ft) : Bool :=
  decide (0 ≤ v ∧ v ≤ 1000 ∧ 0 ≤ p ∧ p ≤ 5 ∧ 0 ≤ m ∧ m ≤ 10) && (decide (ks.size + 1 ≤ 600) && tOne p m v 30 k n ls ks)
theorem tRightB_out {p m v : Int} (k n : Int) (ls : Fo) (ks : Ft) (h : ¬ (0 ≤ v ∧ v ≤ 1000 ∧ 0 ≤ p ∧ p ≤ 5 ∧ 0 ≤ m ∧ m ≤ 10)) : tRightB p m v k n ls ks = false := by
  unfold tRightB; rw [decide_eq_false h]; rfl
theorem tRightB_c {p m v : Int} (k n : Int) (ls : Fo) (ks : Ft) (h : 0 ≤ v ∧ v ≤ 1000 ∧ 0 ≤ p ∧ p ≤ 5 ∧ 0 ≤ m ∧ m ≤ 10) : tRightB p m v k n ls ks = (ctOne p m v k n ls ks 30 600).isSome := by
  unfold tRightB ctOne tOne
  rw [decide_eq_true h]
  cases hf : tfitsB p m v k n ls ks.len with
  | false => simp
  | true =>
    rw [if_neg (by simp), ctAll_eq]
    by_cases h1 : tAll p m ks k 0 v 29 = true
    · by_cases h2 : ks.size + 1 ≤ 600
      · rw [if_pos ⟨h1, by omega⟩, decide_eq_true h2]; simp [h1]
      · rw [if_neg (by rintro ⟨_, h3⟩; omega), decide_eq_false h2]; rfl
    · rw [if_neg (by rintro ⟨h3, _⟩; exact h1 h3)]
      simp [h1]
theorem tRightB_big (p m v k n : Int) (ls : Fo) {ks : Ft} (h : ¬ partsF ks 601 1 ≤ 600) : tRightB p m v k n ls ks = false := by
  rw [partsF_eq ks 601 1 (by omega) (by omega)] at h
  have : decide (ks.size + 1 ≤ 600) = false := decide_eq_false (by omega)
  unfold tRightB; rw [this]; simp
theorem tRightB_yes {p m v : Int} (k n : Int) (ls : Fo) {ks : Ft} (h0 : 0 ≤ v ∧ v ≤ 1000 ∧ 0 ≤ p ∧ p ≤ 5 ∧ 0 ≤ m ∧ m ≤ 10) (h : partsF ks 601 1 ≤ 600) : tRightB p m v k n ls ks = tOne p m v 30 k n ls ks := by
  rw [partsF_eq ks 601 1 (by omega) (by omega)] at h
  have : decide (ks.size + 1 ≤ 600) = true := decide_eq_true (by omega)
  unfold tRightB; rw [decide_eq_true h0, this]; rfl
def shB (k n : Int) (ls : Fo) (ks : Ft) : Bool := tRightB 5 10 1000 k n ls ks
theorem shB_parts {k n : Int} {ls : Fo} {ks : Ft} (h : shB k n ls ks = true) : ks.size + 1 ≤ 600 ∧ tfitsB 5 10 1000 k n ls ks.len = true ∧ tAll 5 10 ks k 0 1000 29 = true := by
  unfold shB tRightB tOne at h
  simp only [Bool.and_eq_true, decide_eq_true_eq] at h
  exact ⟨h.2.1, h.2.2.2.1, by simpa using h.2.2.2.2⟩
theorem lvB_size {p m : Int} : ∀ {ls : Fo}, lvB p m ls = true → ls.size ≤ ls.len * 100
  | .nil, _ => Nat.zero_le _
  | .cons k n ks r, h => by
    simp only [lvB, Bool.and_eq_true] at h
    have h1 := lvB_size h.2
    have h2 := h.1
    unfold rightB at h2
    simp only [Bool.and_eq_true, decide_eq_true_eq] at h2
    simp only [Fo.size, Fo.len]
    omega
theorem tfits_lvsz {p m v k n : Int} {ls : Fo} {len : Nat} (h : tfitsB p m v k n ls len = true) : ls.size ≤ 500 := by
  unfold tfitsB at h; simp only [Bool.and_eq_true, decide_eq_true_eq] at h
  obtain ⟨h1, h2, h3, h4, h5, h6⟩ := h
  have := lvB_size h6
  have : thi k ≤ 5 := by unfold thi; split <;> (try split) <;> omega
  omega
theorem tAll_lvsz {p m : Int} : ∀ {f : Ft} {k0 : Int} {i : Nat} {v d : Int}, tAll p m f k0 i v d = true → f.lvsz 500
  | .nil, _, _, _, _, _ => trivial
  | .cons k n ls ks r, k0, i, v, d, h => by
    unfold tAll at h
    simp only [Bool.and_eq_true, decide_eq_true_eq] at h
    exact ⟨tfits_lvsz h.1.2.1, tAll_lvsz h.1.2.2, tAll_lvsz h.2⟩
end Go.Proofs.YtnfhpombnbpdcaaGreat
