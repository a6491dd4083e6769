/- The contracts of the table's functions that tell a level's value by its Kids' values. -/
import Derived.Test.YtlbflfijihbmdaaValue
import Derived.Test.YtlbflfijihbmdaaKinds
namespace Go.Proofs.Ytlbflfijihbmdaa
open Go.RowKit

set_option maxHeartbeats 1000000 in
theorem kf2_any (n x y : Int) (p m : Value) (w : World) : Calls Try.prog 31 #[.agg #[.int .i64 n, .int .i64 x, .int .i64 y, p, m]] w fun e w' => e = .returned (.int .i64 0) ∧ Below w.heap.size w w' := by
  go_enter Try.func31, Try.ntmps31
  go_wp2
  go_ret
  exact ⟨rfl, (Below.refl _ _).alloc (Nat.le_refl _) _⟩
set_option maxHeartbeats 1000000 in
theorem kf3_any (n x y : Int) (p m : Value) (w : World) (h0 : 0 ≤ x) (h1 : x ≤ 2199023255552) : Calls Try.prog 32 #[.agg #[.int .i64 n, .int .i64 x, .int .i64 y, p, m]] w fun e w' => e = .returned (.int .i64 (1 + x)) ∧ Below w.heap.size w w' := by
  go_enter Try.func32, Try.ntmps32
  go_wp2
  go_ret
  exact ⟨by rw [Int.add_comm]; rfl, (Below.refl _ _).alloc (Nat.le_refl _) _⟩
set_option maxHeartbeats 1000000 in
theorem kf4_any (n x y : Int) (p m : Value) (w : World) : Calls Try.prog 33 #[.agg #[.int .i64 n, .int .i64 x, .int .i64 y, p, m]] w fun e w' => e = .returned (.int .i64 (max x y)) ∧ Below w.heap.size w w' := by
  go_enter Try.func33, Try.ntmps33
  go_wp2
  all_goals go_ret
  all_goals exact ⟨by rw [max_ite]; first | (rw [if_pos (by assumption)]; rfl) | (rw [if_neg (by omega)]; rfl), (Below.refl _ _).alloc (Nat.le_refl _) _⟩
set_option maxHeartbeats 1000000 in
theorem imax_any (n x y : Int) (p m : Value) (w : World) : Calls Try.prog 34 #[.agg #[.int .i64 n, .int .i64 x, .int .i64 y, p, m]] w fun e w' => e = .returned (.int .i64 (if y = 0 then 0 else max x y)) ∧ Below w.heap.size w w' := by
  by_cases h : y = 0
  · rw [if_pos h]
    subst h
    go_enter Try.func34, Try.ntmps34
    go_wp2
    go_ret
    exact ⟨rfl, (Below.refl _ _).alloc (Nat.le_refl _) _⟩
  · rw [if_neg h]
    have d : (y == 0) = false := beq_eq_false_iff_ne.2 h
    clear h
    go_enter Try.func34, Try.ntmps34
    go_wp2
    all_goals go_ret
    all_goals exact ⟨by rw [max_ite]; first | (rw [if_pos (by assumption)]; rfl) | (rw [if_neg (by omega)]; rfl), (Below.refl _ _).alloc (Nat.le_refl _) _⟩
set_option maxHeartbeats 1000000 in
theorem kf6_any (j : Nat) (x y : Int) (ps : List Int) (a : Option Addr) (cap B : Nat) (m : Value) (w : World) (hin : IntsIn w (· < B) ps a cap) (hB : B ≤ w.heap.size) (hj : j < ps.length) :
    Calls Try.prog 36 #[.agg #[.int .i64 j, .int .i64 x, .int .i64 y, .slice a ps.length cap, m]] w fun e w' => e = .returned (.int .i64 (ps.getD j 0)) ∧ Below w.heap.size w w' := by
  obtain ⟨b, o, rfl, hbB, hc⟩ := hin.some (by omega)
  have hcj := hc j hj
  have hlen := hin.len
  have hb : b < w.heap.size := by omega
  clear hc
  generalize ps.getD j 0 = z at hcj ⊢
  go_enter Try.func36, Try.ntmps36
  go_wp2
  go_ret
  exact ⟨rfl, (Below.refl _ _).alloc (Nat.le_refl _) _⟩
set_option maxHeartbeats 1000000 in
theorem kf8_any (j : Nat) (x y : Int) (ps : List Int) (a : Option Addr) (cap B : Nat) (m : Value) (w : World) (hin : IntsIn w (· < B) ps a cap) (hB : B ≤ w.heap.size) (hj : j < ps.length) :
    Calls Try.prog 38 #[.agg #[.int .i64 j, .int .i64 x, .int .i64 y, m, .slice a ps.length cap]] w fun e w' => e = .returned (.int .i64 (ps.getD j 0)) ∧ Below w.heap.size w w' := by
  obtain ⟨b, o, rfl, hbB, hc⟩ := hin.some (by omega)
  have hcj := hc j hj
  have hlen := hin.len
  have hb : b < w.heap.size := by omega
  clear hc
  generalize ps.getD j 0 = z at hcj ⊢
  go_enter Try.func38, Try.ntmps38
  go_wp2
  go_ret
  exact ⟨rfl, (Below.refl _ _).alloc (Nat.le_refl _) _⟩
end Go.Proofs.Ytlbflfijihbmdaa
