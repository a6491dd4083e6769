/- The contract of the document's own test whether all values are numbers from 0 to 2^40. Condition: the values lie in memory. -/
import Derived.Test.YtglggigndhbpcaaZHs
namespace Go.Proofs.Ytglggigndhbpcaa
open Go.RowKit

set_option maxRecDepth 100000 in
set_option maxHeartbeats 1000000 in
theorem r8natural_any (l : List Int) (a : Option Addr) (cap B : Nat) (w : World) (hin : IntsIn w (· < B) l a cap) :
    Calls Try.prog 37 #[.slice a l.length cap] w fun e w' => e = .returned (.bool (natsB l)) ∧ w = w' := by
  have hlen := hin.len
  go_enter Try.func37, Try.ntmps37
  go_wp2_with fail
  go_loop [3] (fun i => ∃ k : Nat, i = .int .i64 k ∧ k ≤ l.length ∧ Hid (natsB (l.drop k) = natsB l)) (fun i => l.length - (intOf i).toNat)
  case atStart => exact ⟨0, rfl, by omega, Lib.hid (by simp)⟩
  case round =>
    obtain ⟨k, rfl, hk, hn⟩ := hrel
    by_cases hlt : k < l.length
    · obtain ⟨b, o, rfl, hbB, hc⟩ := hin.some (by omega)
      have hck := hc k hlt
      have HL := Lib.hid (natsB_low hlt)
      have HH := Lib.hid (natsB_high hlt)
      have HN := Lib.hid (natsB_next hlt)
      clear hc
      generalize l.getD k 0 = x at hck HL HH HN
      by_cases h1 : x < 0
      · have HE := Lib.hid (HL.out h1)
        go_wp2_with fail
        go_ret
        exact ⟨by rw [← hn.out, HE.out]; rfl, rfl⟩
      · by_cases h2 : 1099511627776 < x
        · have HE := Lib.hid (HH.out h2)
          go_wp2_with fail
          go_ret
          exact ⟨by rw [← hn.out, HE.out]; rfl, rfl⟩
        · have HE := Lib.hid (HN.out h1 h2)
          go_wp2_with fail
          go_round
          case rel => exact ⟨k + 1, by go_num, by omega, Lib.hid (by rw [← hn.out, HE.out])⟩
          case measure => simp [intOf]; omega
    · have HE := Lib.hid (natsB_end hlt)
      go_wp2_with fail
      go_ret
      exact ⟨by rw [← hn.out, HE.out]; rfl, rfl⟩
end Go.Proofs.Ytglggigndhbpcaa
