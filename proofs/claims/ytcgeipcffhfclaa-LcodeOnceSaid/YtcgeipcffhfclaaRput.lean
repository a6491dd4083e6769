/- The contract of the document's own Put: for every number from 0 to 2^40 it returns the base-128 bytes, for any other the refusal; it only makes new memory. -/
import Derived.Test.YtcgeipcffhfclaaMath
import Derived.Test.YtcgeipcffhfclaaRows
import Derived.WalkKit
import Derived.ProofKit
import Derived.OpenShut
import Derived.Below
import Derived.LoopTactic
import Derived.Lib.Hide
import Derived.Maps.AppendAt
namespace Go.Proofs.Ytcgeipcffhfclaa
open Go.RowKit

/-- A slice of one byte that was just laid, turned into a string. -/
theorem conv1 (x : Int) (wr : World) : (convert 24 9 (.slice (some ⟨wr.heap.size, 0, none⟩) 1 1)).run Try.prog (wr.alloc (.cells #[.int .u8 x] 5)) = .ok (.string (strOfNums [x])) (wr.alloc (.cells #[.int .u8 x] 5)) :=
  run_convert_bytes_arg _ 24 5 Try.underlying24 Try.underlying5 wr.heap.size 0 1 1 [x] rfl (fun i hi => by
    obtain rfl : i = 0 := by omega
    simp) 9 Try.underlying9

theorem add_nums (a b : List Int) (ha : a.length ≤ 1000) (hb : b.length ≤ 1000) (W : World) : (Op.stringOp .add (strOfNums a) (strOfNums b)).run Try.prog W = .ok (.string (strOfNums (a ++ b))) W := by
  rw [run_string_add_sum W _ _ (by rw [strOfNums_size, strOfNums_size]; omega), strOfNums_append]

set_option maxHeartbeats 400000 in
theorem rput_any (n : Nat) (h : n ≤ 1099511627776) (w : World) :
    Calls Try.prog 32 #[.int .i64 n] w fun e w' => e = .returned (.tuple #[.string (strOfNums (enc n)), .int .i64 0]) ∧ Below w.heap.size w w' := by
  have hl := enc_len6 h
  go_enter Try.func32, Try.ntmps32
  go_wp2
  go_loopw [0, 4] (fun m o wr => ∃ (k : Nat) (pre : List Int), k ≤ 1099511627776 ∧ m = .int .i64 k ∧ o = .string (strOfNums pre) ∧ Hid (pre ++ enc k = enc n) ∧ Below w.heap.size w wr) (fun m _ _ => (intOf m).toNat)
  case atStart => exact ⟨n, [], h, rfl, rfl, Lib.hid (by simp), Below.refl _ _⟩
  case round =>
    obtain ⟨k, pre, hk, rfl, rfl, hpre, hb⟩ := hrel
    have hpl : pre.length ≤ 6 := by have := congrArg List.length hpre.out; simp at this; omega
    by_cases hlt : k < 128
    · have hge : ¬ (128 : Int) ≤ (k : Int) := by omega
      have hc := conv1 (k : Int) wr
      have ha := add_nums pre [(k : Int)] (by omega) (by simp)
      go_wp2
      go_ret2
      exact ⟨by rw [← hpre.out, enc_small hlt]; rfl, hb.alloc hb.size _⟩
    · have hge : (128 : Int) ≤ (k : Int) := by omega
      have hc := conv1 (128 + (k : Int) % 128) wr
      have ha := add_nums pre [128 + (k : Int) % 128] (by omega) (by simp)
      go_wp2
      go_roundw
      case rel => exact ⟨k / 128, pre ++ [128 + (k : Int) % 128], by omega, by go_num, rfl, Lib.hid (by rw [← hpre.out, enc_more hlt]; simp; omega), hb.alloc hb.size _⟩
      case measure => simp [intOf]; omega
set_option maxHeartbeats 400000 in
theorem rput_no (n : Int) (h : n < 0 ∨ 1099511627776 < n) (w : World) :
    Calls Try.prog 32 #[.int .i64 n] w fun e w' => e = .returned (.tuple #[.string (strOfNums []), .int .i64 1]) ∧ Below w.heap.size w w' := by
  rcases h with h | h
  · go_enter Try.func32, Try.ntmps32
    go_wp2
    go_ret2
    exact ⟨rfl, Below.refl _ _⟩
  · have h' : ¬ n < 0 := by omega
    go_enter Try.func32, Try.ntmps32
    go_wp2
    go_ret2
    exact ⟨rfl, Below.refl _ _⟩
end Go.Proofs.Ytcgeipcffhfclaa
