/- The contract of the document's own Get: at every place of every string it returns what the recursive reader of base-128 numbers tells; it leaves memory alone. -/
import Derived.Test.YthnkoamabfaioaaGet
namespace Go.Proofs.Ythnkoamabfaioaa
open Go.RowKit

set_option maxRecDepth 100000 in
set_option maxHeartbeats 400000 in
theorem rget_no (s : ByteArray) (a : Int) (w : World) (hs : s.size ≤ maxLen) (ha : a < 0 ∨ (s.size : Int) < a) :
    Calls Try.prog 68 #[.string s, .int .i64 a] w fun e w' => e = .returned (rdV (0, 0, 1)) ∧ w = w' := by
  unfold maxLen at hs
  rcases ha with ha | ha
  · go_enter Try.func68, Try.ntmps68
    go_wp2
    go_ret3
    exact ⟨rfl, rfl⟩
  · have h0 : ¬ a < 0 := by omega
    go_enter Try.func68, Try.ntmps68
    go_wp2
    go_ret3
    exact ⟨rfl, rfl⟩

theorem ret3 {x y p q : Int} (h : x = y) (h2 : p = q) : Ending.returned (.tuple #[.int .i64 x, .int .i64 p, .int .i64 0]) = .returned (.tuple #[.int .i64 y, .int .i64 q, .int .i64 0]) := by rw [h, h2]

set_option maxRecDepth 100000 in
set_option maxHeartbeats 1000000 in
theorem rget_any (s : ByteArray) (a : Nat) (w : World) (hs : s.size ≤ maxLen) (ha : a ≤ s.size) :
    Calls Try.prog 68 #[.string s, .int .i64 a] w fun e w' => e = .returned (rdV (rd a 0 0 (s.data.toList.drop a))) ∧ w = w' := by
  unfold maxLen at hs
  have d0 : decide ((a : Int) < 0) = false := by simp
  have d1 : decide (s.size < a) = false := by simp; omega
  go_enter Try.func68, Try.ntmps68
  go_wp2
  go_loop [7, 8, 9] (fun n u i => ∃ k acc unit : Nat, k ≤ s.size - a ∧ k ≤ 6 ∧ i = .int .i64 ((a : Int) + (k : Int)) ∧ n = .int .i64 acc ∧ u = .int .i64 unit ∧ Hid (unit = 128 ^ k) ∧ acc < unit ∧ Hid (rd a 0 0 (s.data.toList.drop a) = rd a k acc (s.data.toList.drop (a + k)))) (fun _ _ i => s.size - (intOf i).toNat)
  case atStart => exact ⟨0, 0, 1, Nat.zero_le _, Nat.zero_le _, by simp, rfl, rfl, Lib.hid (by simp), by omega, Lib.hid rfl⟩
  case round =>
    obtain ⟨k, acc, unit, hk, hk6, rfl, rfl, rfl, hun, hacc, hrd⟩ := hrel
    have hub : unit ≤ 4398046511104 := by have := Nat.pow_le_pow_right (n := 128) (by omega) hk6; rw [← hun.out] at this; omega
    by_cases hlt : a + k < s.size
    · have hx : ((a : Int) + (k : Int)) < (s.size : Int) := by omega
      have hx0 : 0 ≤ ((a : Int) + (k : Int)) := by omega
      have hR : Hid (rd a 0 0 (s.data.toList.drop a) = rd a k acc (s[a + k] :: s.data.toList.drop (a + (k + 1)))) := Lib.hid (by rw [hrd.out, drop_at s (a + k) hlt]; rfl)
      have hA := Lib.hid (acc_lt acc k s[a + k] (by rw [← hun.out]; exact hacc))
      clear hrd
      generalize hb : s[a + k] = b at hR hA
      have hb1 : (b.toNat : Int) < 256 := by have := b.toNat_lt; omega
      have hb0 : 0 ≤ (b.toNat : Int) := by omega
      have hm : (b.toNat : Int) % 128 * (unit : Int) ≤ 558551906910208 := by
        have := Int.mul_le_mul (a := (b.toNat : Int) % 128) (b := (unit : Int)) (c := 127) (d := 4398046511104) (by omega) (by omega) (by omega) (by omega)
        omega
      have hm0 : 0 ≤ (b.toNat : Int) % 128 * (unit : Int) := Int.mul_nonneg (by omega) (by omega)
      have hE : Hid ((acc : Int) + (b.toNat : Int) % 128 * (unit : Int) = ((acc + b.toNat % 128 * 128 ^ k : Nat) : Int)) := Lib.hid (by rw [← hun.out]; simp)
      by_cases hbad : k = 6 ∨ (0 < k ∧ b.toNat = 0)
      · have hV := Lib.hid (hR.out.trans (rd_err hbad))
        have hk0 : (a : Int) < (a : Int) + (k : Int) := by omega
        by_cases hz : b.toNat = 0
        · have h0 : ((b.toNat : Int) == 0) = true := by simp; omega
          clear hbad hz
          go_wp2
          go_ret3
          exact ⟨by rw [hV.out]; rfl, rfl⟩
        · have h0 : ((b.toNat : Int) == 0) = false := by simp; omega
          have h5 : 5 < (a : Int) + (k : Int) - (a : Int) := by omega
          clear hbad hz
          go_wp2
          go_ret3
          exact ⟨by rw [hV.out]; rfl, rfl⟩
      · have h5 : (a : Int) + (k : Int) - (a : Int) ≤ 5 := by omega
        by_cases hb7 : b.toNat < 128
        · have hb7' : (b.toNat : Int) < 128 := by omega
          by_cases hbig : 1099511627776 < acc + b.toNat % 128 * 128 ^ k
          · have hV := Lib.hid (hR.out.trans (rd_big hbad hb7 hbig))
            have hbg : 1099511627776 < (acc : Int) + (b.toNat : Int) % 128 * (unit : Int) := by rw [hE.out]; omega
            clear hbig
            by_cases hk0 : 0 < k
            · have hk0' : (a : Int) < (a : Int) + (k : Int) := by omega
              have h0 : ((b.toNat : Int) == 0) = false := by simp; omega
              clear hbad
              go_wp2
              all_goals (go_ret3; exact ⟨by rw [hV.out]; rfl, rfl⟩)
            · have hk0' : (a : Int) + (k : Int) ≤ (a : Int) := by omega
              clear hbad
              go_wp2
              all_goals (go_ret3; exact ⟨by rw [hV.out]; rfl, rfl⟩)
          · have hV := Lib.hid (hR.out.trans (rd_end hbad hb7 hbig))
            have hbg : ¬ 1099511627776 < (acc : Int) + (b.toNat : Int) % 128 * (unit : Int) := by rw [hE.out]; omega
            clear hbig
            by_cases hk0 : 0 < k
            · have hk0' : (a : Int) < (a : Int) + (k : Int) := by omega
              have h0 : ((b.toNat : Int) == 0) = false := by simp; omega
              clear hbad
              go_wp2
              all_goals (go_ret3; exact ⟨by rw [hV.out]; exact ret3 hE.out rfl, rfl⟩)
            · have hk0' : (a : Int) + (k : Int) ≤ (a : Int) := by omega
              clear hbad
              go_wp2
              all_goals (go_ret3; exact ⟨by rw [hV.out]; exact ret3 hE.out rfl, rfl⟩)
        · have hV := Lib.hid (hR.out.trans (rd_on hbad hb7))
          have hb7' : (128 : Int) ≤ (b.toNat : Int) := by omega
          have hU : Hid ((unit : Int) * 128 = ((128 ^ (k + 1) : Nat) : Int)) := Lib.hid (by rw [Nat.pow_succ, ← hun.out]; simp)
          by_cases hk0 : 0 < k
          · have hk0' : (a : Int) < (a : Int) + (k : Int) := by omega
            have h0 : ((b.toNat : Int) == 0) = false := by simp; omega
            clear hbad
            go_wp2
            go_round
            case rel => exact ⟨k + 1, _, _, by omega, by omega, by go_num, by rw [hE.out], by rw [hU.out], Lib.hid rfl, hA.out, Lib.hid hV.out⟩
            case measure => simp [intOf]; omega
          · have hk0' : (a : Int) + (k : Int) ≤ (a : Int) := by omega
            clear hbad
            go_wp2
            go_round
            case rel => exact ⟨k + 1, _, _, by omega, by omega, by go_num, by rw [hE.out], by rw [hU.out], Lib.hid rfl, hA.out, Lib.hid hV.out⟩
            case measure => simp [intOf]; omega
    · have hV : Hid (rd a 0 0 (s.data.toList.drop a) = (0, 0, 21)) := Lib.hid (by rw [hrd.out, List.drop_of_length_le (by simpa using hlt)]; rfl)
      clear hrd hacc
      have hx : ¬ ((a : Int) + (k : Int)) < (s.size : Int) := by omega
      go_wp2
      go_ret3
      exact ⟨by rw [hV.out]; rfl, rfl⟩

/-- What both answer at any place. -/
def ansG (s : ByteArray) (a : Int) : Nat × Nat × Nat := if a < 0 ∨ (s.size : Int) < a then (0, 0, 1) else rd a.toNat 0 0 (s.data.toList.drop a.toNat)
theorem get_ans (s : ByteArray) (a : Int) (w : World) (hs : s.size ≤ maxLen) : Calls Try.prog 66 #[.string s, .int .i64 a] w fun e w' => e = .returned (rdV (ansG s a)) ∧ w = w' := by
  unfold ansG
  by_cases h : a < 0 ∨ (s.size : Int) < a
  · rw [if_pos h]; exact get_no s a w hs h
  · rw [if_neg h]
    have := get_any s a.toNat w hs (by omega)
    rwa [show ((a.toNat : Nat) : Int) = a by omega] at this
theorem rget_ans (s : ByteArray) (a : Int) (w : World) (hs : s.size ≤ maxLen) : Calls Try.prog 68 #[.string s, .int .i64 a] w fun e w' => e = .returned (rdV (ansG s a)) ∧ w = w' := by
  unfold ansG
  by_cases h : a < 0 ∨ (s.size : Int) < a
  · rw [if_pos h]; exact rget_no s a w hs h
  · rw [if_neg h]
    have := rget_any s a.toNat w hs (by omega)
    rwa [show ((a.toNat : Nat) : Int) = a by omega] at this

end Go.Proofs.Ythnkoamabfaioaa
