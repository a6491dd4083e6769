/- The contracts of both checksums: of every string they return the same fold over its bytes; they leave memory alone. -/
import Derived.Test.YtljkbdlfknlanaaGet
namespace Go.Proofs.Ytljkbdlfknlanaa
open Go.RowKit

/-- The checksum of the bytes. -/
def sm (l : List UInt8) : Nat := l.foldl (fun v b => (v * 31 + b.toNat + 1) % 65521) 0
theorem sm_snoc (l : List UInt8) (b : UInt8) : sm (l ++ [b]) = (sm l * 31 + b.toNat + 1) % 65521 := by simp [sm]
theorem foldl_lt : ∀ (l : List UInt8) (v : Nat), v < 65521 → l.foldl (fun v b => (v * 31 + b.toNat + 1) % 65521) v < 65521
  | [], v, h => h
  | b :: t, v, _ => foldl_lt t _ (Nat.mod_lt _ (by omega))
theorem sm_lt (l : List UInt8) : sm l < 65521 := foldl_lt l 0 (by omega)
theorem take_snoc (s : ByteArray) (k : Nat) (h : k < s.size) : s.data.toList.take (k + 1) = s.data.toList.take k ++ [s[k]] := by
  rw [List.take_succ_eq_append_getElem (by simpa using h)]; rfl
theorem sm_step (s : ByteArray) (k : Nat) (h : k < s.size) : ((sm (s.data.toList.take k) : Int) * 31 + (s[k].toNat : Int) + 1) % 65521 = ((sm (s.data.toList.take (k + 1)) : Nat) : Int) := by
  rw [take_snoc s k h, sm_snoc]; omega

set_option maxHeartbeats 400000 in
theorem sum_any (s : ByteArray) (w : World) (hs : s.size ≤ maxLen) :
    Calls Try.prog 12 #[.string s] w fun e w' => e = .returned (.int .i64 (sm s.data.toList)) ∧ w = w' := by
  unfold maxLen at hs
  go_enter Try.func12, Try.ntmps12
  go_wp2
  go_loop [3, 7] (fun n i => ∃ k v : Nat, k ≤ s.size ∧ i = .int .i64 k ∧ n = .int .i64 v ∧ v < 65521 ∧ Hid (v = sm (s.data.toList.take k))) (fun _ i => s.size - (intOf i).toNat)
  case atStart => exact ⟨0, 0, Nat.zero_le _, rfl, rfl, by omega, Lib.hid rfl⟩
  case round =>
    obtain ⟨k, v, hk, rfl, rfl, hv, hV⟩ := hrel
    by_cases hlt : k < s.size
    · have hE : Hid (((v : Int) * 31 + (s[k].toNat : Int) + 1) % 65521 = ((sm (s.data.toList.take (k + 1)) : Nat) : Int)) := Lib.hid (by rw [hV.out]; exact sm_step s k hlt)
      have hb1 : (s[k].toNat : Int) < 256 := by have := s[k].toNat_lt; omega
      have hb0 : 0 ≤ (s[k].toNat : Int) := by omega
      have hl := sm_lt (s.data.toList.take (k + 1))
      go_wp2
      go_round
      case rel => exact ⟨k + 1, _, by omega, by go_num, by rw [hE.out], hl, Lib.hid rfl⟩
      case measure => simp [intOf]; omega
    · have hE : Hid (v = sm s.data.toList) := Lib.hid (by rw [hV.out, List.take_of_length_le (by simpa using hlt)])
      go_wp2
      go_ret
      exact ⟨by rw [← hE.out]; rfl, rfl⟩

set_option maxHeartbeats 400000 in
theorem rsum_any (s : ByteArray) (w : World) (hs : s.size ≤ maxLen) :
    Calls Try.prog 13 #[.string s] w fun e w' => e = .returned (.int .i64 (sm s.data.toList)) ∧ w = w' := by
  unfold maxLen at hs
  go_enter Try.func13, Try.ntmps13
  go_wp2
  go_loop [3, 4] (fun n i => ∃ k v : Nat, k ≤ s.size ∧ i = .int .i64 k ∧ n = .int .i64 v ∧ v < 65521 ∧ Hid (v = sm (s.data.toList.take k))) (fun _ i => s.size - (intOf i).toNat)
  case atStart => exact ⟨0, 0, Nat.zero_le _, rfl, rfl, by omega, Lib.hid rfl⟩
  case round =>
    obtain ⟨k, v, hk, rfl, rfl, hv, hV⟩ := hrel
    by_cases hlt : k < s.size
    · have hE : Hid (((v : Int) * 31 + (s[k].toNat : Int) + 1) % 65521 = ((sm (s.data.toList.take (k + 1)) : Nat) : Int)) := Lib.hid (by rw [hV.out]; exact sm_step s k hlt)
      have hb1 : (s[k].toNat : Int) < 256 := by have := s[k].toNat_lt; omega
      have hb0 : 0 ≤ (s[k].toNat : Int) := by omega
      have hl := sm_lt (s.data.toList.take (k + 1))
      go_wp2
      go_round
      case rel => exact ⟨k + 1, _, by omega, by go_num, by rw [hE.out], hl, Lib.hid rfl⟩
      case measure => simp [intOf]; omega
    · have hE : Hid (v = sm s.data.toList) := Lib.hid (by rw [hV.out, List.take_of_length_le (by simpa using hlt)])
      go_wp2
      go_ret
      exact ⟨by rw [← hE.out]; rfl, rfl⟩
end Go.Proofs.Ytljkbdlfknlanaa
