/- The contracts of the small functions on nodes: how many kids and numbers a kind has, and whether a node may stand at a place; the program's and the document's own. No condition. -/
import Derived.Test.YtmbopdlmkbbbiaaNode
import Derived.Deep.QuietTactic
import Derived.BigQuiet
import Derived.RegionTactic
namespace Go.Proofs.Ytmbopdlmkbbbiaa
open Go.RowKit

set_option maxHeartbeats 400000 in
theorem ashape_any (k : Int) (w : World) : Calls Try.prog 68 #[.int .i64 k] w fun e w' => e = .returned (.tuple #[.int .i64 (nKids k), .int .i64 (nNames k)]) ∧ w' = w := by
  by_cases h1 : k = 1
  · subst h1
    go_enter Try.func68, Try.ntmps68
    go_wp2
    go_ret2
    exact ⟨rfl, rfl⟩
  by_cases h2 : k = 2
  · subst h2
    go_enter Try.func68, Try.ntmps68
    go_wp2
    go_ret2
    exact ⟨rfl, rfl⟩
  by_cases h3 : k = 3
  · subst h3
    go_enter Try.func68, Try.ntmps68
    go_wp2
    go_ret2
    exact ⟨rfl, rfl⟩
  by_cases h4 : k = 4
  · subst h4
    go_enter Try.func68, Try.ntmps68
    go_wp2
    go_ret2
    exact ⟨rfl, rfl⟩
  by_cases h5 : k = 5
  · subst h5
    go_enter Try.func68, Try.ntmps68
    go_wp2
    go_ret2
    exact ⟨rfl, rfl⟩
  by_cases h6 : k = 6
  · subst h6
    go_enter Try.func68, Try.ntmps68
    go_wp2
    go_ret2
    exact ⟨rfl, rfl⟩
  have e1 : nKids k = 0 := by unfold nKids; rw [if_neg h2, if_neg (by omega)]
  have e2 : nNames k = 0 := by unfold nNames; rw [if_neg (by omega), if_neg h5, if_neg h6]
  rw [e1, e2]
  have d1 : (k == 1) = false := beq_eq_false_iff_ne.2 h1
  have d2 : (k == 2) = false := beq_eq_false_iff_ne.2 h2
  have d3 : (k == 3) = false := beq_eq_false_iff_ne.2 h3
  have d4 : (k == 4) = false := beq_eq_false_iff_ne.2 h4
  have d5 : (k == 5) = false := beq_eq_false_iff_ne.2 h5
  have d6 : (k == 6) = false := beq_eq_false_iff_ne.2 h6
  clear e1 e2 h1 h2 h3 h4 h5 h6
  go_enter Try.func68, Try.ntmps68
  go_wp2
  go_ret2
  exact ⟨rfl, rfl⟩
set_option maxHeartbeats 400000 in
theorem akidFits_any (kid : Int) (has : Bool) (own : Int) (w : World) : Calls Try.prog 69 #[.int .i64 kid, .bool has, .int .i64 own] w fun e w' => e = .returned (.bool (kidB kid has own)) ∧ w' = w := by
  cases has with
  | false =>
    have e : kidB kid false own = (kid == 0) := rfl
    rw [e]
    go_enter Try.func69, Try.ntmps69
    go_wp2
    go_ret
    exact ⟨rfl, rfl⟩
  | true =>
    by_cases h : 0 ≤ kid
    · have e : kidB kid true own = decide (kid < own) := by simp [kidB, h]
      rw [e]
      go_enter Try.func69, Try.ntmps69
      go_wp2
      go_ret
      exact ⟨rfl, rfl⟩
    · have e : kidB kid true own = false := by simp [kidB, h]
      have d : decide (0 ≤ kid) = false := by simpa using h
      rw [e]
      go_enter Try.func69, Try.ntmps69
      go_wp2
      go_ret
      exact ⟨rfl, rfl⟩
set_option maxHeartbeats 1000000 in
theorem afits_any (x : Nd) (i : Int) (w : World) : Calls Try.prog 54 #[nv x, .int .i64 i] w fun e w' => e = .returned (.bool (fitsN x i)) ∧ Below w.heap.size w w' := by
  obtain ⟨k, n, a, b⟩ := x
  have HS := Lib.hid (ashape_any k)
  have hf : fitsN ⟨k, n, a, b⟩ i = (decide (0 ≤ n) && (decide (n < nNames k) && (kidB a (decide (0 < nKids k)) i && kidB b (decide (1 < nKids k)) i))) := rfl
  rw [hf]
  clear hf
  show Calls Try.prog 54 #[.agg #[.int .i64 k, .int .i64 n, .int .i64 a, .int .i64 b], .int .i64 i] w _
  generalize nKids k = c at HS ⊢
  generalize nNames k = m at HS ⊢
  have hA := fun W => akidFits_any a (decide (0 < c)) i W
  have hB := fun W => akidFits_any b (decide (1 < c)) i W
  generalize kidB a (decide (0 < c)) i = A at hA ⊢
  generalize kidB b (decide (1 < c)) i = B at hB ⊢
  have HA := Lib.hid hA
  have HB := Lib.hid hB
  clear hA hB
  have hb0 : Below w.heap.size w (w.alloc (.cells #[.int .i64 k, .int .i64 n, .int .i64 a, .int .i64 b] 41)) := (Below.refl _ _).alloc (Nat.le_refl _) _
  by_cases h0 : 0 ≤ n
  · have d0 : decide (0 ≤ n) = true := by simpa using h0
    rw [d0]
    by_cases h1 : n < m
    · have d1 : decide (n < m) = true := by simpa using h1
      rw [d1]
      cases A with
      | true =>
        go_enter Try.func54, Try.ntmps54
        go_wp2_with (first | (go_at_call 68; refine (HS.out _).mono ?_; rintro e w' ⟨rfl, rfl⟩) | (go_at_call 69; first | ((with_reducible refine (HA.out _).mono ?_); rintro e w' ⟨rfl, rfl⟩) | ((with_reducible refine (HB.out _).mono ?_); rintro e w' ⟨rfl, rfl⟩)))
        go_ret
        exact ⟨rfl, hb0⟩
      | false =>
        go_enter Try.func54, Try.ntmps54
        go_wp2_with (first | (go_at_call 68; refine (HS.out _).mono ?_; rintro e w' ⟨rfl, rfl⟩) | (go_at_call 69; first | ((with_reducible refine (HA.out _).mono ?_); rintro e w' ⟨rfl, rfl⟩) | ((with_reducible refine (HB.out _).mono ?_); rintro e w' ⟨rfl, rfl⟩)))
        go_ret
        exact ⟨rfl, hb0⟩
    · have d1 : decide (n < m) = false := by simpa using h1
      rw [d1]
      go_enter Try.func54, Try.ntmps54
      go_wp2_with (go_at_call 68; refine (HS.out _).mono ?_; rintro e w' ⟨rfl, rfl⟩)
      go_ret
      exact ⟨rfl, hb0⟩
  · have d0 : decide (0 ≤ n) = false := by simpa using h0
    rw [d0]
    go_enter Try.func54, Try.ntmps54
    go_wp2_with (go_at_call 68; refine (HS.out _).mono ?_; rintro e w' ⟨rfl, rfl⟩)
    go_ret
    exact ⟨rfl, hb0⟩
end Go.Proofs.Ytmbopdlmkbbbiaa
