/- The contract of the program's Get: at every place of every string it returns what the recursive reader of base-128 numbers tells; it leaves memory alone. -/
import Derived.Test.YthnkoamabfaioaaMath
import Derived.Test.YthnkoamabfaioaaRows
import Derived.WalkKit
import Derived.ProofKit
import Derived.OpenShut
import Derived.LoopTactic
import Derived.Lib.Hide
import Derived.IntWalk
namespace Go.Proofs.Ythnkoamabfaioaa
open Go.RowKit

/-- The three results, out of what 'rd' tells. -/
def rdV (r : Nat × Nat × Nat) : Value := .tuple #[.int .i64 r.1, .int .i64 r.2.1, .int .i64 r.2.2]

set_option maxHeartbeats 400000 in
theorem ended_big (n : Nat) (p : Int) (h : 1099511627776 < n) (w : World) :
    Calls Try.prog 79 #[.int .u64 n, .int .i64 p] w fun e w' => e = .returned (.tuple #[.int .i64 0, .int .i64 0, .int .i64 20]) ∧ w = w' := by
  have h' : (1099511627776 : Int) < (n : Int) := by omega
  go_enter Try.func79, Try.ntmps79
  go_wp2
  go_ret3
  exact ⟨rfl, rfl⟩
set_option maxHeartbeats 400000 in
theorem ended_ok (n : Nat) (p : Int) (h : ¬ 1099511627776 < n) (w : World) :
    Calls Try.prog 79 #[.int .u64 n, .int .i64 p] w fun e w' => e = .returned (.tuple #[.int .i64 n, .int .i64 p, .int .i64 0]) ∧ w = w' := by
  have h' : ¬ (1099511627776 : Int) < (n : Int) := by omega
  have h2 : (n : Int) ≤ 1099511627776 := by omega
  go_enter Try.func79, Try.ntmps79
  go_wp2
  go_ret3
  exact ⟨rfl, rfl⟩

set_option maxRecDepth 100000 in
set_option maxHeartbeats 1000000 in
theorem get_any (s : ByteArray) (a : Nat) (w : World) (hs : s.size ≤ maxLen) (ha : a ≤ s.size) :
    Calls Try.prog 66 #[.string s, .int .i64 a] w fun e w' => e = .returned (rdV (rd a 0 0 (s.data.toList.drop a))) ∧ w = w' := by
  unfold maxLen at hs
  have d0 : decide ((a : Int) < 0) = false := by simp
  have d1 : decide (s.size < a) = false := by simp; omega
  go_enter Try.func66, Try.ntmps66
  go_wp2
  go_loop [7, 22] (fun n i => ∃ k acc : Nat, k ≤ s.size - a ∧ k ≤ 6 ∧ i = .int .i64 k ∧ n = .int .u64 acc ∧ Hid (acc < 128 ^ k) ∧ Hid (rd a 0 0 (s.data.toList.drop a) = rd a k acc (s.data.toList.drop (a + k)))) (fun _ i => s.size - a - (intOf i).toNat)
  case atStart => exact ⟨0, 0, Nat.zero_le _, Nat.zero_le _, rfl, rfl, Lib.hid (by simp), Lib.hid rfl⟩
  case round =>
    obtain ⟨k, acc, hk, hk6, rfl, rfl, hacc, hrd⟩ := hrel
    by_cases hlt : a + k < s.size
    · have hx : ((a : Int) + (k : Int)) < (s.size : Int) := by omega
      have hR : Hid (rd a 0 0 (s.data.toList.drop a) = rd a k acc (s[a + k] :: s.data.toList.drop (a + (k + 1)))) := Lib.hid (by rw [hrd.out, drop_at s (a + k) hlt]; rfl)
      have hP : Hid (k ≤ 5 → bits .or .u64 (acc : Int) (IntKind.u64.wrap (IntKind.u64.wrap (bits .andNot .u8 (s[a + k].toNat : Int) 128) * 2 ^ (7 * k))) = ((acc + s[a + k].toNat % 128 * 128 ^ k : Nat) : Int)) := Lib.hid (fun h => put_digit acc k s[a + k] h hacc.out)
      have hA := Lib.hid (acc_lt acc k s[a + k] hacc.out)
      clear hrd
      generalize hb : s[a + k] = b at hR hP hA
      by_cases h6 : k = 6
      · have e6 : ((k : Int) == 6) = true := by simp; omega
        have hV := Lib.hid (hR.out.trans (rd_err (.inl h6)))
        clear h6
        go_wp2
        go_ret3
        exact ⟨by rw [hV.out]; rfl, rfl⟩
      · have e6 : ((k : Int) == 6) = false := by simp; omega
        by_cases hz : 0 < k ∧ b.toNat = 0
        · have h0 : ((b.toNat : Int) == 0) = true := by simp; omega
          have hk0 : 0 < k := hz.1
          have hV := Lib.hid (hR.out.trans (rd_err (.inr hz)))
          clear hz
          go_wp2
          go_ret3
          exact ⟨by rw [hV.out]; rfl, rfl⟩
        · have hnb : Hid (¬ (k = 6 ∨ (0 < k ∧ b.toNat = 0))) := Lib.hid (by omega)
          have hP' := Lib.hid (hP.out (by omega))
          by_cases hb7 : b.toNat < 128
          · by_cases hbig : 1099511627776 < acc + b.toNat % 128 * 128 ^ k
            · have hV := Lib.hid (hR.out.trans (rd_big hnb.out hb7 hbig))
              have hbig' := Lib.hid hbig
              clear hbig
              by_cases hk0 : 0 < k
              · have h0 : ((b.toNat : Int) == 0) = false := by simp; omega
                clear hz
                go_wp2_with fail
                all_goals (rw [hP'.out]; refine (ended_big _ _ hbig'.out _).mono ?_; rintro e w' ⟨rfl, rfl⟩; go_wp2; go_ret3; exact ⟨by rw [hV.out]; rfl, rfl⟩)
              · clear hz
                go_wp2_with fail
                all_goals (rw [hP'.out]; refine (ended_big _ _ hbig'.out _).mono ?_; rintro e w' ⟨rfl, rfl⟩; go_wp2; go_ret3; exact ⟨by rw [hV.out]; rfl, rfl⟩)
            · have hV := Lib.hid (hR.out.trans (rd_end hnb.out hb7 hbig))
              have hbig' := Lib.hid hbig
              clear hbig
              by_cases hk0 : 0 < k
              · have h0 : ((b.toNat : Int) == 0) = false := by simp; omega
                clear hz
                go_wp2_with fail
                all_goals (rw [hP'.out]; refine (ended_ok _ _ hbig'.out _).mono ?_; rintro e w' ⟨rfl, rfl⟩; go_wp2; go_ret3; exact ⟨by rw [hV.out]; rfl, rfl⟩)
              · clear hz
                go_wp2_with fail
                all_goals (rw [hP'.out]; refine (ended_ok _ _ hbig'.out _).mono ?_; rintro e w' ⟨rfl, rfl⟩; go_wp2; go_ret3; exact ⟨by rw [hV.out]; rfl, rfl⟩)
          · have hV := Lib.hid (hR.out.trans (rd_on hnb.out hb7))
            have hb7' : (128 : Int) ≤ (b.toNat : Int) := by omega
            have hA' := hA.out
            by_cases hk0 : 0 < k
            · have h0 : ((b.toNat : Int) == 0) = false := by simp; omega
              clear hz hA'
              go_wp2
              go_round
              case rel => exact ⟨k + 1, _, by omega, by omega, by go_num, by rw [hP'.out], Lib.hid hA.out, Lib.hid hV.out⟩
              case measure => simp [intOf]; omega
            · clear hz hA'
              go_wp2
              go_round
              case rel => exact ⟨k + 1, _, by omega, by omega, by go_num, by rw [hP'.out], Lib.hid hA.out, Lib.hid hV.out⟩
              case measure => simp [intOf]; omega
    · have hV : Hid (rd a 0 0 (s.data.toList.drop a) = (0, 0, 21)) := Lib.hid (by rw [hrd.out, List.drop_of_length_le (by simpa using hlt)]; rfl)
      clear hrd hacc
      go_wp2
      go_ret3
      exact ⟨by rw [hV.out]; rfl, rfl⟩

set_option maxRecDepth 100000 in
set_option maxHeartbeats 400000 in
theorem get_no (s : ByteArray) (a : Int) (w : World) (hs : s.size ≤ maxLen) (ha : a < 0 ∨ (s.size : Int) < a) :
    Calls Try.prog 66 #[.string s, .int .i64 a] w fun e w' => e = .returned (rdV (0, 0, 1)) ∧ w = w' := by
  unfold maxLen at hs
  rcases ha with ha | ha
  · go_enter Try.func66, Try.ntmps66
    go_wp2
    go_ret3
    exact ⟨rfl, rfl⟩
  · have h0 : ¬ a < 0 := by omega
    go_enter Try.func66, Try.ntmps66
    go_wp2
    go_ret3
    exact ⟨rfl, rfl⟩
end Go.Proofs.Ythnkoamabfaioaa
