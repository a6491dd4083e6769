/- The contracts of the list of a node's kids, and of the document's own small functions on nodes. No condition. -/
import Derived.Test.YtmbopdlmkbbbiaaAfits
namespace Go.Proofs.Ytmbopdlmkbbbiaa
open Go.RowKit

theorem nKids_cases (k : Int) : nKids k = 0 ∨ nKids k = 1 ∨ nKids k = 2 := by
  unfold nKids
  split
  · exact .inr (.inl rfl)
  · split
    · exact .inr (.inr rfl)
    · exact .inl rfl
/-- How many kids, as a number of things. -/
def nK (k : Int) : Nat := (nKids k).toNat
theorem nK_eq (k : Int) : ((nK k : Nat) : Int) = nKids k := by
  unfold nK
  rcases nKids_cases k with h | h | h <;> rw [h] <;> rfl
set_option maxHeartbeats 1000000 in
theorem akidsOf_any (x : Nd) (w : World) : Calls Try.prog 58 #[nv x] w fun e w' => e = .returned (.slice (some ⟨w.heap.size + 1, 0, none⟩) (nK x.k) 2) ∧ w' = (w.alloc (.cells #[.int .i64 x.k, .int .i64 x.n, .int .i64 x.a, .int .i64 x.b] 41)).alloc (.cells #[.int .i64 x.a, .int .i64 x.b] 3) := by
  obtain ⟨k, n, a, b⟩ := x
  have HS := Lib.hid (ashape_any k)
  show Calls Try.prog 58 #[.agg #[.int .i64 k, .int .i64 n, .int .i64 a, .int .i64 b]] w _
  have hc := nKids_cases k
  have hn := nK_eq k
  generalize nKids k = c at HS hc hn
  generalize nNames k = m at HS
  rcases hc with rfl | rfl | rfl
  · have e : nK k = 0 := by omega
    show Calls _ _ _ _ fun e w' => e = .returned (.slice (some ⟨w.heap.size + 1, 0, none⟩) (nK k) 2) ∧ _
    rw [e]
    clear e hn
    go_enter Try.func58, Try.ntmps58
    go_wp2_with (go_at_call 68; refine (HS.out _).mono ?_; rintro e w' ⟨rfl, rfl⟩)
    go_ret
    exact ⟨rfl, rfl⟩
  · have e : nK k = 1 := by omega
    show Calls _ _ _ _ fun e w' => e = .returned (.slice (some ⟨w.heap.size + 1, 0, none⟩) (nK k) 2) ∧ _
    rw [e]
    clear e hn
    go_enter Try.func58, Try.ntmps58
    go_wp2_with (go_at_call 68; refine (HS.out _).mono ?_; rintro e w' ⟨rfl, rfl⟩)
    go_ret
    exact ⟨rfl, rfl⟩
  · have e : nK k = 2 := by omega
    show Calls _ _ _ _ fun e w' => e = .returned (.slice (some ⟨w.heap.size + 1, 0, none⟩) (nK k) 2) ∧ _
    rw [e]
    clear e hn
    go_enter Try.func58, Try.ntmps58
    go_wp2_with (go_at_call 68; refine (HS.out _).mono ?_; rintro e w' ⟨rfl, rfl⟩)
    go_ret
    exact ⟨rfl, rfl⟩

theorem ret_bool {a b : Bool} (h : a = b) : Ending.returned (.bool a) = .returned (.bool b) := by rw [h]
set_option maxHeartbeats 400000 in
theorem r4kids_any (k : Int) (w : World) : Calls Try.prog 67 #[.int .i64 k] w fun e w' => e = .returned (.int .i64 (kidsOf k)) ∧ w' = w := by
  by_cases h1 : k = 1
  · subst h1
    go_enter Try.func67, Try.ntmps67
    go_wp2
    go_ret
    exact ⟨rfl, rfl⟩
  by_cases h2 : k = 2
  · subst h2
    go_enter Try.func67, Try.ntmps67
    go_wp2
    go_ret
    exact ⟨rfl, rfl⟩
  by_cases h3 : k = 3
  · subst h3
    go_enter Try.func67, Try.ntmps67
    go_wp2
    go_ret
    exact ⟨rfl, rfl⟩
  by_cases h4 : k = 4
  · subst h4
    go_enter Try.func67, Try.ntmps67
    go_wp2
    go_ret
    exact ⟨rfl, rfl⟩
  by_cases h5 : k = 5
  · subst h5
    go_enter Try.func67, Try.ntmps67
    go_wp2
    go_ret
    exact ⟨rfl, rfl⟩
  by_cases h6 : k = 6
  · subst h6
    go_enter Try.func67, Try.ntmps67
    go_wp2
    go_ret
    exact ⟨rfl, rfl⟩
  have e1 : kidsOf k = -1 := by unfold kidsOf; rw [if_neg (by omega), if_neg h2, if_neg (by omega)]
  rw [e1]
  have d1 : (k == 1) = false := beq_eq_false_iff_ne.2 h1
  have d2 : (k == 2) = false := beq_eq_false_iff_ne.2 h2
  have d3 : (k == 3) = false := beq_eq_false_iff_ne.2 h3
  have d4 : (k == 4) = false := beq_eq_false_iff_ne.2 h4
  have d5 : (k == 5) = false := beq_eq_false_iff_ne.2 h5
  have d6 : (k == 6) = false := beq_eq_false_iff_ne.2 h6
  clear e1 h1 h2 h3 h4 h5 h6
  go_enter Try.func67, Try.ntmps67
  go_wp2
  go_ret
  exact ⟨rfl, rfl⟩
set_option maxHeartbeats 1000000 in
theorem r4fits_1 (n a b i : Int) (w : World) : Calls Try.prog 53 #[nv ⟨1, n, a, b⟩, .int .i64 i] w fun e w' => e = .returned (.bool (fitsN ⟨1, n, a, b⟩ i)) ∧ Below w.heap.size w w' := by
  have HS := Lib.hid (r4kids_any 1)
  show Calls Try.prog 53 #[.agg #[.int .i64 1, .int .i64 n, .int .i64 a, .int .i64 b], .int .i64 i] w _
  have hc : kidsOf 1 = 0 := rfl
  rw [hc] at HS
  clear hc
  go_enter Try.func53, Try.ntmps53
  go_wp2_with (go_at_call 67; refine (HS.out _).mono ?_; rintro e w' ⟨rfl, rfl⟩)
  all_goals
    go_ret
    exact ⟨ret_bool (by rw [Bool.eq_iff_iff]; simp [fitsN, nNames, nKids, kidB] <;> omega), (Below.refl _ _).alloc (Nat.le_refl _) _⟩
set_option maxHeartbeats 1000000 in
theorem r4fits_2 (n a b i : Int) (w : World) : Calls Try.prog 53 #[nv ⟨2, n, a, b⟩, .int .i64 i] w fun e w' => e = .returned (.bool (fitsN ⟨2, n, a, b⟩ i)) ∧ Below w.heap.size w w' := by
  have HS := Lib.hid (r4kids_any 2)
  show Calls Try.prog 53 #[.agg #[.int .i64 2, .int .i64 n, .int .i64 a, .int .i64 b], .int .i64 i] w _
  have hc : kidsOf 2 = 1 := rfl
  rw [hc] at HS
  clear hc
  go_enter Try.func53, Try.ntmps53
  go_wp2_with (go_at_call 67; refine (HS.out _).mono ?_; rintro e w' ⟨rfl, rfl⟩)
  all_goals
    go_ret
    exact ⟨ret_bool (by rw [Bool.eq_iff_iff]; simp [fitsN, nNames, nKids, kidB] <;> omega), (Below.refl _ _).alloc (Nat.le_refl _) _⟩
set_option maxHeartbeats 1000000 in
theorem r4fits_3 (n a b i : Int) (w : World) : Calls Try.prog 53 #[nv ⟨3, n, a, b⟩, .int .i64 i] w fun e w' => e = .returned (.bool (fitsN ⟨3, n, a, b⟩ i)) ∧ Below w.heap.size w w' := by
  have HS := Lib.hid (r4kids_any 3)
  show Calls Try.prog 53 #[.agg #[.int .i64 3, .int .i64 n, .int .i64 a, .int .i64 b], .int .i64 i] w _
  have hc : kidsOf 3 = 2 := rfl
  rw [hc] at HS
  clear hc
  go_enter Try.func53, Try.ntmps53
  go_wp2_with (go_at_call 67; refine (HS.out _).mono ?_; rintro e w' ⟨rfl, rfl⟩)
  all_goals
    go_ret
    exact ⟨ret_bool (by rw [Bool.eq_iff_iff]; simp [fitsN, nNames, nKids, kidB] <;> omega), (Below.refl _ _).alloc (Nat.le_refl _) _⟩
set_option maxHeartbeats 1000000 in
theorem r4fits_4 (n a b i : Int) (w : World) : Calls Try.prog 53 #[nv ⟨4, n, a, b⟩, .int .i64 i] w fun e w' => e = .returned (.bool (fitsN ⟨4, n, a, b⟩ i)) ∧ Below w.heap.size w w' := by
  have HS := Lib.hid (r4kids_any 4)
  show Calls Try.prog 53 #[.agg #[.int .i64 4, .int .i64 n, .int .i64 a, .int .i64 b], .int .i64 i] w _
  have hc : kidsOf 4 = 2 := rfl
  rw [hc] at HS
  clear hc
  go_enter Try.func53, Try.ntmps53
  go_wp2_with (go_at_call 67; refine (HS.out _).mono ?_; rintro e w' ⟨rfl, rfl⟩)
  all_goals
    go_ret
    exact ⟨ret_bool (by rw [Bool.eq_iff_iff]; simp [fitsN, nNames, nKids, kidB] <;> omega), (Below.refl _ _).alloc (Nat.le_refl _) _⟩
set_option maxHeartbeats 1000000 in
theorem r4fits_5 (n a b i : Int) (w : World) : Calls Try.prog 53 #[nv ⟨5, n, a, b⟩, .int .i64 i] w fun e w' => e = .returned (.bool (fitsN ⟨5, n, a, b⟩ i)) ∧ Below w.heap.size w w' := by
  have HS := Lib.hid (r4kids_any 5)
  show Calls Try.prog 53 #[.agg #[.int .i64 5, .int .i64 n, .int .i64 a, .int .i64 b], .int .i64 i] w _
  have hc : kidsOf 5 = 0 := rfl
  rw [hc] at HS
  clear hc
  go_enter Try.func53, Try.ntmps53
  go_wp2_with (go_at_call 67; refine (HS.out _).mono ?_; rintro e w' ⟨rfl, rfl⟩)
  all_goals
    go_ret
    exact ⟨ret_bool (by rw [Bool.eq_iff_iff]; simp [fitsN, nNames, nKids, kidB] <;> omega), (Below.refl _ _).alloc (Nat.le_refl _) _⟩
set_option maxHeartbeats 1000000 in
theorem r4fits_6 (n a b i : Int) (w : World) : Calls Try.prog 53 #[nv ⟨6, n, a, b⟩, .int .i64 i] w fun e w' => e = .returned (.bool (fitsN ⟨6, n, a, b⟩ i)) ∧ Below w.heap.size w w' := by
  have HS := Lib.hid (r4kids_any 6)
  show Calls Try.prog 53 #[.agg #[.int .i64 6, .int .i64 n, .int .i64 a, .int .i64 b], .int .i64 i] w _
  have hc : kidsOf 6 = 0 := rfl
  rw [hc] at HS
  clear hc
  go_enter Try.func53, Try.ntmps53
  go_wp2_with (go_at_call 67; refine (HS.out _).mono ?_; rintro e w' ⟨rfl, rfl⟩)
  all_goals
    go_ret
    exact ⟨ret_bool (by rw [Bool.eq_iff_iff]; simp [fitsN, nNames, nKids, kidB] <;> omega), (Below.refl _ _).alloc (Nat.le_refl _) _⟩
set_option maxHeartbeats 1000000 in
theorem r4fits_any (x : Nd) (i : Int) (w : World) : Calls Try.prog 53 #[nv x, .int .i64 i] w fun e w' => e = .returned (.bool (fitsN x i)) ∧ Below w.heap.size w w' := by
  obtain ⟨k, n, a, b⟩ := x
  by_cases h1 : k = 1
  · subst h1; exact r4fits_1 n a b i w
  by_cases h2 : k = 2
  · subst h2; exact r4fits_2 n a b i w
  by_cases h3 : k = 3
  · subst h3; exact r4fits_3 n a b i w
  by_cases h4 : k = 4
  · subst h4; exact r4fits_4 n a b i w
  by_cases h5 : k = 5
  · subst h5; exact r4fits_5 n a b i w
  by_cases h6 : k = 6
  · subst h6; exact r4fits_6 n a b i w
  have e1 : kidsOf k = -1 := by unfold kidsOf; rw [if_neg (by omega), if_neg h2, if_neg (by omega)]
  have e2 : fitsN ⟨k, n, a, b⟩ i = false := by
    have e3 : nNames k = 0 := by unfold nNames; rw [if_neg (by omega), if_neg h5, if_neg h6]
    unfold fitsN
    rw [e3]
    by_cases h : 0 ≤ n
    · have : decide (n < 0) = false := by simpa using h
      rw [this]; simp
    · simp [h]
  rw [e2]
  have HS := Lib.hid (r4kids_any k)
  rw [e1] at HS
  have hb0 : Below w.heap.size w (w.alloc (.cells #[.int .i64 k, .int .i64 n, .int .i64 a, .int .i64 b] 41)) := (Below.refl _ _).alloc (Nat.le_refl _) _
  show Calls Try.prog 53 #[.agg #[.int .i64 k, .int .i64 n, .int .i64 a, .int .i64 b], .int .i64 i] w _
  clear e1 e2 h1 h2 h3 h4 h5 h6
  go_enter Try.func53, Try.ntmps53
  go_wp2_with (go_at_call 67; refine (HS.out _).mono ?_; rintro e w' ⟨rfl, rfl⟩)
  go_ret
  exact ⟨rfl, hb0⟩
end Go.Proofs.Ytmbopdlmkbbbiaa
