/- The contract of the document's own Right, for all numbers of parameters and unknowns. -/
import Derived.Test.YtcnhfoppfihhiaaRright
namespace Go.Proofs.Ytcnhfoppfihhiaa
open Go.RowKit

theorem rightB_no {p m : Int} (k n : Int) (ks : Fo) (h : ¬ (0 ≤ p ∧ p ≤ 5 ∧ 0 ≤ m ∧ m ≤ 10)) : rightB p m k n ks = false := by
  unfold rightB; rw [decide_eq_false h]; rfl
theorem rightB_big (p m k n : Int) {ks : Fo} (h : ¬ nodesF ks 101 1 ≤ 100) : rightB p m k n ks = false := by
  rw [nodesF_eq ks 101 1 (by omega) (by omega)] at h
  have : decide (ks.size + 1 ≤ 100) = false := decide_eq_false (by omega)
  unfold rightB; rw [this]; simp
theorem rightB_yes {p m : Int} (k n : Int) {ks : Fo} (h0 : 0 ≤ p ∧ p ≤ 5 ∧ 0 ≤ m ∧ m ≤ 10) (h : nodesF ks 101 1 ≤ 100) : rightB p m k n ks = rNode p m k n ks.len 12 (rAll p m ks (12 - 1)) := by
  rw [nodesF_eq ks 101 1 (by omega) (by omega)] at h
  have : decide (ks.size + 1 ≤ 100) = true := decide_eq_true (by omega)
  unfold rightB; rw [decide_eq_true h0, this]; rfl

set_option maxRecDepth 100000 in
set_option maxHeartbeats 2000000 in
theorem rRight_any (p m k n : Int) (f : Fo) (a : Option Addr) (cap B : Nat) (w : World) (hsl : SlIn w (· < B) f a cap) (hB : B ≤ w.heap.size) :
    Calls Try.prog 53 #[.agg #[.int .i64 k, .int .i64 n, .slice a f.len cap], .int .i64 p, .int .i64 m] w fun e w' => e = .returned (.bool (rightB p m k n f)) ∧ Below w.heap.size w w' := by
  by_cases h1 : 0 ≤ p
  · have d1 : decide (0 ≤ p) = true := decide_eq_true h1
    by_cases h2 : p ≤ 5
    · have d2 : decide (p ≤ 5) = true := decide_eq_true h2
      by_cases h3 : 0 ≤ m
      · have d3 : decide (0 ≤ m) = true := decide_eq_true h3
        by_cases h4 : m ≤ 10
        · have d4 : decide (m ≤ 10) = true := decide_eq_true h4
          by_cases h5 : nodesF f 101 1 ≤ 100
          · have d5 : decide (nodesF f 101 1 ≤ 100) = true := decide_eq_true h5
            rw [rightB_yes k n ⟨h1, h2, h3, h4⟩ h5]
            generalize hv : rNode p m k n f.len 12 (rAll p m f (12 - 1)) = v
            have HR := Lib.hid (fun W h0 hB' => rright_any p m (f.size + 1) f (Nat.lt_succ_self _) k n 12 a cap B W h0 hB' (by omega) (by omega))
            rw [hv] at HR
            clear hv
            go_enter Try.func53, Try.ntmps53
            go_wp2_with fail
            refine (nodes_any (f.size + 1) f (Nat.lt_succ_self _) _ _ _ _ _ B _ (hsl.below ((Below.refl _ _).alloc hB _)) (by simp; omega) (by omega) (by omega)).mono ?_
            rintro e w1 ⟨rfl, hb1⟩
            have hb1' : Below (w.heap.size + 1) (w.alloc (.cells #[.int .i64 k, .int .i64 n, .slice a f.len cap] 38)) w1 := by simpa using hb1
            have c0 := bcell hb1' w.heap.size 0 (by omega)
            have c1 := bcell hb1' w.heap.size 1 (by omega)
            have c2 := bcell hb1' w.heap.size 2 (by omega)
            simp at c0 c1 c2
            have hwB : Below B w w1 := ((Below.refl B w).alloc hB _).trans (hb1'.mono (by omega))
            clear hb1
            go_wp2_with fail
            refine (HR.out _ (hsl.below hwB) (Nat.le_trans hB hwB.size)).mono ?_
            rintro e w2 ⟨rfl, hb2⟩
            go_wp2_with fail
            go_ret
            exact ⟨rfl, Below.step (((Below.refl _ _).alloc (Nat.le_refl _) _).trans (hb1'.mono (by omega))) hb2 (Nat.le_refl _)⟩
          · have d5 : decide (nodesF f 101 1 ≤ 100) = false := decide_eq_false h5
            rw [rightB_big p m k n h5]
            go_enter Try.func53, Try.ntmps53
            go_wp2_with fail
            refine (nodes_any (f.size + 1) f (Nat.lt_succ_self _) _ _ _ _ _ B _ (hsl.below ((Below.refl _ _).alloc hB _)) (by simp; omega) (by omega) (by omega)).mono ?_
            rintro e w1 ⟨rfl, hb1⟩
            go_wp2_with fail
            go_ret
            exact ⟨rfl, Below.step ((Below.refl _ _).alloc (Nat.le_refl _) _) hb1 (Nat.le_refl _)⟩
        · have d4 : decide (m ≤ 10) = false := decide_eq_false h4
          rw [rightB_no k n f (fun h => h4 h.2.2.2)]
          go_enter Try.func53, Try.ntmps53
          go_wp2_with fail
          go_ret
          exact ⟨rfl, (Below.refl _ _).alloc (Nat.le_refl _) _⟩
      · have d3 : decide (0 ≤ m) = false := decide_eq_false h3
        rw [rightB_no k n f (fun h => h3 h.2.2.1)]
        go_enter Try.func53, Try.ntmps53
        go_wp2_with fail
        go_ret
        exact ⟨rfl, (Below.refl _ _).alloc (Nat.le_refl _) _⟩
    · have d2 : decide (p ≤ 5) = false := decide_eq_false h2
      rw [rightB_no k n f (fun h => h2 h.2.1)]
      go_enter Try.func53, Try.ntmps53
      go_wp2_with fail
      go_ret
      exact ⟨rfl, (Below.refl _ _).alloc (Nat.le_refl _) _⟩
  · have d1 : decide (0 ≤ p) = false := decide_eq_false h1
    rw [rightB_no k n f (fun h => h1 h.1)]
    go_enter Try.func53, Try.ntmps53
    go_wp2_with fail
    go_ret
    exact ⟨rfl, (Below.refl _ _).alloc (Nat.le_refl _) _⟩
end Go.Proofs.Ytcnhfoppfihhiaa
