/- The numbers of a level in which others are put in, in plain words: what is not named makes no difference; what all is put for is named no more. Conditions: those of each statement. -/
import Derived.Test.YtmbopdlmkbbbiaaNspec
import Derived.Test.YtmbopdlmkbbbiaaSsub
import Derived.Test.YtmbopdlmkbbbiaaMaker0
import Derived.Test.YtmbopdlmkbbbiaaMono
import Derived.Test.YtmbopdlmkbbbiaaVals
namespace Go.Proofs.Ytmbopdlmkbbbiaa
open Go

theorem ins_ne (x : Int) (zs : List Int) : ins x zs ≠ [] := by
  unfold ins; split
  · rename_i h; intro e; rw [e] at h; cases h
  · simp
theorem onceL_ne : ∀ (xs zs : List Int), zs ≠ [] → onceL xs zs ≠ []
  | [], _, h => h
  | x :: xs, zs, _ => onceL_ne xs (ins x zs) (ins_ne x zs)
theorem onceL_nil {xs : List Int} (h : onceL xs [] = []) : xs = [] := by
  cases xs with
  | nil => rfl
  | cons x xs => exact absurd h (onceL_ne xs _ (ins_ne x []))
theorem numF_app (K : Int) : ∀ f g : Fo, numF K (f.app g) = numF K f ++ numF K g
  | .nil, _ => rfl
  | .cons k n ks r, g => by
    show (if k = K then [n] else numF K ks) ++ numF K (r.app g) = ((if k = K then [n] else numF K ks) ++ numF K r) ++ numF K g
    rw [numF_app K r g, List.append_assoc]
theorem num_one (K k n : Int) (ks : Fo) : numF K (.cons k n ks .nil) = num1 K k n ks := by
  show (if k = K then [n] else numF K ks) ++ [] = _
  rw [List.append_nil]; rfl
theorem app_one (k n : Int) (ks r : Fo) : (Fo.cons k n ks .nil).app r = .cons k n ks r := rfl
/-- Where no parameter is named, and nothing is put for an unknown, nothing is changed. -/
theorem sbF_none (P : Fo) : ∀ f : Fo, noneg f → (P = .nil ∨ numF 5 f = []) → sbF P .nil f = f
  | .nil, _, _ => rfl
  | .cons k n ks r, hn, h => by
    have h1 : (P = .nil ∨ numF 5 ks = []) ∧ (P = .nil ∨ numF 5 r = []) ∧ (P = .nil ∨ k ≠ 5) := by
      rcases h with h | h
      · exact ⟨.inl h, .inl h, .inl h⟩
      · have h2 : (if k = 5 then [n] else numF 5 ks) ++ numF 5 r = [] := h
        rw [List.append_eq_nil_iff] at h2
        by_cases hk : k = 5
        · rw [if_pos hk] at h2; cases h2.1
        · rw [if_neg hk] at h2; exact ⟨.inr h2.1, .inr h2.2, .inr hk⟩
    have hs : sv P .nil k n = none := by
      unfold sv
      rw [if_neg, if_neg]
      · rintro ⟨_, h3⟩; have := hn.1; simp [Fo.len] at h3; omega
      · rintro ⟨h3, h4⟩
        rcases h1.2.2 with h5 | h5
        · rw [h5] at h4; have := hn.1; simp [Fo.len] at h4; omega
        · exact h5 h3
    show (sb1 P .nil k n (sbF P .nil ks)).app (sbF P .nil r) = _
    unfold sb1
    rw [hs, sbF_none P ks hn.2.1 h1.1, sbF_none P r hn.2.2 h1.2.1]
    rfl
theorem sb1_none {P : Fo} {k n : Int} {f : Fo} (hn : 0 ≤ n) (hf : noneg f) (h : P = .nil ∨ num1 5 k n f = []) : sb1 P .nil k n (sbF P .nil f) = .cons k n f .nil := by
  have := sbF_none P (.cons k n f .nil) ⟨hn, hf, trivial⟩ (h.imp id (fun h => by rw [num_one]; exact h))
  have e : sbF P .nil (.cons k n f .nil) = (sb1 P .nil k n (sbF P .nil f)).app .nil := rfl
  rw [e] at this
  have e2 : ∀ g : Fo, g.app .nil = g := fun g => by
    induction g with
    | nil => rfl
    | cons a b c d _ ih => show Fo.cons a b c (d.app .nil) = _; rw [ih]
  rwa [e2] at this
/-- Five times the same level. -/
def fives (k n : Int) (F : Fo) : Nat → Fo
  | 0 => .nil
  | m + 1 => .cons k n F (fives k n F m)
theorem fives_len (k n : Int) (F : Fo) : ∀ m, (fives k n F m).len = m
  | 0 => rfl
  | m + 1 => by simp [fives, Fo.len, fives_len k n F m]
theorem fives_get (k n : Int) (F : Fo) : ∀ m i, i < m → (fives k n F m).get i = .cons k n F .nil
  | 0, _, h => by omega
  | m + 1, 0, _ => rfl
  | m + 1, i + 1, h => fives_get k n F m i (by omega)
theorem fives_snoc (k n : Int) (F : Fo) : ∀ m, (fives k n F m).app (.cons k n F .nil) = fives k n F (m + 1)
  | 0 => rfl
  | m + 1 => by
    show Fo.cons k n F ((fives k n F m).app (.cons k n F .nil)) = _
    rw [fives_snoc k n F m]; rfl
/-- All parameters are taken away, the unknowns stay. -/
theorem num_fives {X : Fo} {kx nx : Int} (h5 : numF 5 (.cons kx nx X .nil) = []) (h6 : numF 6 (.cons kx nx X .nil) = []) : ∀ (f : Fo) (d : Int), rAll 5 10 f d = true → numF 5 (sbF (fives kx nx X 5) .nil f) = [] ∧ numF 6 (sbF (fives kx nx X 5) .nil f) = numF 6 f
  | .nil, _, _ => ⟨rfl, rfl⟩
  | .cons k n ks r, d, h => by
    simp only [rAll, Bool.and_eq_true] at h
    obtain ⟨_, hl, hn0, hn1, hk⟩ := node_parts h.1
    have ih1 := num_fives h5 h6 ks (d - 1) hk
    have ih2 := num_fives h5 h6 r d h.2
    have e : sbF (fives kx nx X 5) .nil (.cons k n ks r) = (sb1 (fives kx nx X 5) .nil k n (sbF (fives kx nx X 5) .nil ks)).app (sbF (fives kx nx X 5) .nil r) := rfl
    rw [e, numF_app, numF_app, ih2.1, ih2.2]
    have e6 : numF 6 (.cons k n ks r) = numF 6 (.cons k n ks .nil) ++ numF 6 r := by
      rw [← numF_app]; rfl
    rw [e6]
    by_cases k5 : k = 5
    · subst k5
      have hn5 : n < 5 := by simpa [limOf] using hn1
      have hks : ks = .nil := Fo.len_zero (by simp [kidsOf] at hl; omega)
      have hT : sb1 (fives kx nx X 5) .nil 5 n (sbF (fives kx nx X 5) .nil ks) = .cons kx nx X .nil := by
        unfold sb1
        rw [sv_5 (by rw [fives_len]; exact hn5)]
        show (fives kx nx X 5).get n.toNat = _
        exact fives_get kx nx X 5 n.toNat (by omega)
      rw [hT, h5, h6, hks]
      exact ⟨rfl, rfl⟩
    · have hT : sb1 (fives kx nx X 5) .nil k n (sbF (fives kx nx X 5) .nil ks) = .cons k n (sbF (fives kx nx X 5) .nil ks) .nil := by
        unfold sb1 sv
        rw [if_neg (fun h => k5 h.1), if_neg (fun h => by have := h.2; simp [Fo.len] at this; omega)]
        rfl
      rw [hT, num_one, num_one, num_one]
      unfold num1
      rw [if_neg k5, ih1.1, ih1.2]
      exact ⟨rfl, rfl⟩
/-- What names nothing. -/
theorem num_free : ∀ (f : Fo) (d : Int), rAll 0 0 f d = true → numF 5 f = [] ∧ numF 6 f = []
  | .nil, _, _ => ⟨rfl, rfl⟩
  | .cons k n ks r, d, h => by
    simp only [rAll, Bool.and_eq_true] at h
    obtain ⟨_, _, hn0, hn1, hk⟩ := node_parts h.1
    have ih1 := num_free ks (d - 1) hk
    have ih2 := num_free r d h.2
    have k5 : k ≠ 5 := fun e => by rw [e] at hn1; simp [limOf] at hn1; omega
    have k6 : k ≠ 6 := fun e => by rw [e] at hn1; simp [limOf] at hn1; omega
    constructor
    · show (if k = 5 then [n] else numF 5 ks) ++ numF 5 r = []
      rw [if_neg k5, ih1.1, ih2.1]; rfl
    · show (if k = 6 then [n] else numF 6 ks) ++ numF 6 r = []
      rw [if_neg k6, ih1.2, ih2.2]; rfl
theorem rAll_wide : ∀ (f : Fo) (d : Int), rAll 0 0 f d = true → rAll 5 10 f d = true
  | .nil, _, _ => rfl
  | .cons k n ks r, d, h => by
    simp only [rAll, Bool.and_eq_true] at h ⊢
    obtain ⟨hd, hl, hn0, hn1, hk⟩ := node_parts h.1
    refine ⟨?_, rAll_wide r d h.2⟩
    rw [rNode_fits 5 10 k n ks.len d _ hd (fun h => rAll_nil_of 5 10 ks _ (by omega)), rAll_wide ks (d - 1) hk, Bool.and_true]
    unfold fitsB
    have h2 : n < limOf 5 10 k := by
      unfold limOf at hn1 ⊢
      split
      · rename_i e; rw [if_pos e] at hn1; omega
      · rename_i e; rw [if_neg e] at hn1
        split
        · rename_i e2; rw [if_pos e2] at hn1; omega
        · rename_i e2; rw [if_neg e2] at hn1; exact hn1
    rw [decide_eq_true hl, decide_eq_true hn0, decide_eq_true h2]
    rfl
theorem made0_facts {k n : Int} {F : Fo} (h : LvOk 0 0 5 k n F) : rightB 5 10 k n F = true ∧ numF 5 (.cons k n F .nil) = [] ∧ numF 6 (.cons k n F .nil) = [] := by
  have h0 : rAll 0 0 (.cons k n F .nil) 5 = true := by
    simp only [rAll, Bool.and_true]
    exact h.1
  have h1 := rAll_wide _ _ h0
  simp only [rAll, Bool.and_true] at h1
  have h2 := num_free _ _ h0
  have hs : F.size + 2 ≤ 32 := h.2
  refine ⟨?_, h2.1, h2.2⟩
  unfold rightB
  simp only [Bool.and_eq_true, decide_eq_true_eq]
  exact ⟨by omega, by omega, rNode_mono h1 (by omega) (fun h => rAll_mono h (by omega))⟩
theorem fives_right {k n : Int} {F : Fo} (h : rightB 5 10 k n F = true) : ∀ m, allR (fives k n F m) = true
  | 0 => rfl
  | m + 1 => by
    show (rightB 5 10 k n F && allR (fives k n F m)) = true
    rw [h, fives_right h m]; rfl
end Go.Proofs.Ytmbopdlmkbbbiaa
