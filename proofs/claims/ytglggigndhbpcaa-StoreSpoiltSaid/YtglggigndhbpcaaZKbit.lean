/- The contracts of the program's sets of places: one place, the first ones, the places of a set in order. Conditions stand in each statement. -/
import Derived.Test.YtglggigndhbpcaaZKset
import Derived.Test.YtglggigndhbpcaaZKlen
import Derived.Test.YtglggigndhbpcaaZOwn
import Derived.Test.YtglggigndhbpcaaZWpl
namespace Go.Proofs.Ytglggigndhbpcaa
open Go.RowKit

theorem one_any (i : Nat) (hi : i < 64) (w : World) : Calls Try.prog 58 #[.int .i64 i] w fun e w' => e = .returned (.int .u64 ((2 ^ i : Nat) : Int)) ∧ w' = w := by
  have h0 : (0 : Int) ≤ (i : Int) := by omega
  have h1 : (i : Int) ≤ 64 := by omega
  have e := one_bits hi
  go_enter Try.func58, Try.ntmps58
  go_wp2_with fail
  go_ret
  exact ⟨congrArg Ending.returned (congrArg (Value.int IntKind.u64) (by simp)), rfl⟩
theorem first_any (n : Nat) (hn : n < 64) (w : World) : Calls Try.prog 56 #[.int .i64 n] w fun e w' => e = .returned (.int .u64 ((2 ^ n - 1 : Nat) : Int)) ∧ w' = w := by
  have HC := Lib.hid (one_any n hn)
  have h2 : 2 ^ n < 18446744073709551616 := Nat.pow_lt_pow_right (a := 2) (by omega) hn
  have h3 := Nat.two_pow_pos n
  have e : IntKind.u64.wrap (((2 ^ n : Nat) : Int) - 1) = ((2 ^ n - 1 : Nat) : Int) := by rw [IntKind.wrap_u64]; omega
  generalize 2 ^ n = q at HC h2 h3 e ⊢
  go_enter Try.func56, Try.ntmps56
  go_wp2_with (go_at_call 58; refine (HC.out w).mono ?_; rintro e w1 ⟨rfl, rfl⟩)
  go_ret
  exact ⟨rfl, rfl⟩
/-- What a call answers that tells a row of numbers. -/
def IntsPost (R : List Int) (w : World) (e : Ending) (w' : World) : Prop := ∃ x c, e = .returned (.slice x R.length c) ∧ IOwn w' w.heap.size (.slice x R.length c) R ∧ Below w.heap.size w w'
set_option maxRecDepth 100000 in
set_option maxHeartbeats 4000000 in
theorem idx_any (s : Nat) (hs : s < 18446744073709551616) (w : World) : Calls Try.prog 59 #[.int .u64 s] w (IntsPost (idxK 64 s) w) := by
  have HL := Lib.hid (len64_any s hs w)
  have h64 := len_le (x := s) hs
  have HA := Lib.hid (idxK_all hs)
  generalize idxK 64 s = R at HA ⊢
  generalize Lib.bitLen s = n at HL h64 HA
  go_enter Try.func59, Try.ntmps59
  go_wp2_with (go_at_call 66; refine HL.out.mono ?_; rintro e w1 ⟨rfl, rfl⟩)
  go_loopw [3, 7] (fun uv iv wr => ∃ (k : Nat) (u : Value), uv = u ∧ iv = .int .i64 k ∧ k ≤ n ∧ Hid (IOwn wr w1.heap.size u (idxK k s)) ∧ Hid (Below w1.heap.size w1 wr)) (fun _ iv _ => n - (intOf iv).toNat)
  case atStart => exact ⟨0, _, rfl, rfl, Nat.zero_le _, Lib.hid (IOwn.nil _ _), Lib.hid (Below.refl _ _)⟩
  case round =>
    obtain ⟨k, u, rfl, rfl, hk, hown, hb⟩ := hrel
    have hlen := idxK_len k s
    by_cases hlt : k < n
    · have HO := Lib.hid (one_any k (by omega) wr)
      have hbit := has_bits hs (show k < 64 by omega)
      have hsucc := idxK_succ k s
      have hq : ((2 ^ k : Nat) : Int) ≠ 0 := by have := Nat.two_pow_pos k; omega
      generalize ((2 ^ k : Nat) : Int) = q at HO hbit hq
      have hlt' : (k : Int) < (n : Int) := by omega
      cases ht : s.testBit k with
      | true =>
        rw [ht, if_pos rfl] at hbit hsucc
        have hd : (q != 0) = true := by simpa using hq
        obtain ⟨g2, c2, w3, HRUN, HOW3, HB3⟩ := hown.out.more hb.out 23 k (by omega)
        have HN : Hid (IOwn w3 w1.heap.size (.slice (some ⟨g2, 0, none⟩) ((idxK k s).length + 1) c2) (idxK (k + 1) s)) := Lib.hid (by rw [hsucc]; exact HOW3.out)
        clear HOW3 hown hsucc
        generalize (idxK k s).length = nl at HRUN HN hlen
        go_wp2_with (first | (go_at_call 58; refine HO.out.mono ?_; rintro e w2 ⟨rfl, rfl⟩) | (at_builtin; refine wpList_append_run (by rfl) _ _ _ (by rfl) (by rfl) (by rfl) HRUN.out ?_))
        go_roundw
        case rel => exact ⟨k + 1, _, rfl, by go_num, by omega, HN, HB3⟩
        case measure => simp [intOf]; omega
      | false =>
        rw [ht, if_neg (by decide)] at hbit hsucc
        rw [List.append_nil] at hsucc
        have HN : Hid (IOwn wr w1.heap.size _ (idxK (k + 1) s)) := Lib.hid (by rw [hsucc]; exact hown.out)
        clear hown hsucc
        go_wp2_with (go_at_call 58; refine HO.out.mono ?_; rintro e w2 ⟨rfl, rfl⟩)
        go_roundw
        case rel => exact ⟨k + 1, _, rfl, by go_num, by omega, HN, hb⟩
        case measure => simp [intOf]; omega
    · obtain rfl : k = n := by omega
      have hlt' : ¬ (k : Int) < (k : Int) := by omega
      obtain ⟨x, c, rfl⟩ := hown.out.form
      have HE : Hid (IntsPost R w1 (.returned (.slice x (idxK k s).length c)) wr) := Lib.hid (by rw [← HA.out]; exact ⟨x, c, rfl, hown.out, hb.out⟩)
      generalize (idxK k s).length = nl at HE hlen hown
      clear hown
      go_wp2_with fail
      go_ret
      exact HE.out
end Go.Proofs.Ytglggigndhbpcaa
