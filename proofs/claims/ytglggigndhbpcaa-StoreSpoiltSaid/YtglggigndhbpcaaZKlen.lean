/- The contract of the library's length of a number in bits. Condition: the number fits into 64 bits. -/
import Derived.Test.YtglggigndhbpcaaRows
import Derived.Lib.Strings
import Derived.Lib.Slices
import Derived.Lib.Small
import Derived.Lib.Walk
import Derived.Lib.BitFns
namespace Go.Proofs.Ytglggigndhbpcaa

/-- A way's end: the table's byte of what is left, behind so many bits. -/
theorem len_end {x : Int} (k m : Nat) {y : Int} (h0 : 0 ≤ x) (hx : x < 18446744073709551616) (hm : m = 2 ^ k) (hk : k ≤ 56) (hy : y = x / (m : Int)) (h1 : y ≤ 255) (h2 : k = 0 ∨ (m : Int) ≤ x) : Lib.len8 y = ((Lib.bitLen x.toNat - k : Nat) : Int) ∧ k ≤ Lib.bitLen x.toNat ∧ Lib.bitLen x.toNat ≤ k + 8 := by
  obtain ⟨n, rfl⟩ : ∃ n : Nat, x = (n : Int) := ⟨x.toNat, by omega⟩
  have hy0 : y = ((n / m : Nat) : Int) := by rw [hy]; exact (Int.natCast_ediv n m).symm
  have hy1 : 0 ≤ y := by rw [hy0]; exact Int.natCast_nonneg _
  rw [Lib.len8_of y hy1 h1]
  have hl := Lib.bitLen_le8' y hy1 h1
  have e : y.toNat = n / 2 ^ k := by rw [hy0, hm]; rfl
  rw [e] at hl ⊢
  rw [Int.toNat_natCast]
  have hs : Lib.bitLen n = k + Lib.bitLen (n / 2 ^ k) := by
    rcases h2 with rfl | h2
    · simp
    · exact Lib.bitLen_shift k n (by rw [← hm]; omega) (by omega)
  omega
set_option maxRecDepth 100000 in
set_option maxHeartbeats 4000000 in
theorem len64_int (x : Int) (w : World) (h0 : 0 ≤ x) (h1 : x ≤ 18446744073709551615) : Calls Try.prog 66 #[.int .u64 x] w fun e w' => e = .returned (.int .i64 (Lib.bitLen x.toNat)) ∧ w' = w := by
  go_enter Try.func66, Try.ntmps66
  go_wp2
  all_goals (go_ret; refine ⟨congrArg Ending.returned (congrArg (Value.int IntKind.i64) ?_), rfl⟩)
  all_goals first
    | (have l := len_end (x := x) 56 72057594037927936 (y := x / 4294967296 / 65536 / 256 % 256) h0 (by omega) (by decide) (by omega) (by omega) (by omega) (by omega); rw [l.1]; omega)
    | (have l := len_end (x := x) 48 281474976710656 (y := x / 4294967296 / 65536 % 256) h0 (by omega) (by decide) (by omega) (by omega) (by omega) (by omega); rw [l.1]; omega)
    | (have l := len_end (x := x) 40 1099511627776 (y := x / 4294967296 / 256 % 256) h0 (by omega) (by decide) (by omega) (by omega) (by omega) (by omega); rw [l.1]; omega)
    | (have l := len_end (x := x) 32 4294967296 (y := x / 4294967296 % 256) h0 (by omega) (by decide) (by omega) (by omega) (by omega) (by omega); rw [l.1]; omega)
    | (have l := len_end (x := x) 24 16777216 (y := x / 65536 / 256 % 256) h0 (by omega) (by decide) (by omega) (by omega) (by omega) (by omega); rw [l.1]; omega)
    | (have l := len_end (x := x) 16 65536 (y := x / 65536 % 256) h0 (by omega) (by decide) (by omega) (by omega) (by omega) (by omega); rw [l.1]; omega)
    | (have l := len_end (x := x) 8 256 (y := x / 256 % 256) h0 (by omega) (by decide) (by omega) (by omega) (by omega) (by omega); rw [l.1]; omega)
    | (have l := len_end (x := x) 0 1 (y := x % 256) h0 (by omega) (by decide) (by omega) (by omega) (by omega) (by omega); rw [l.1]; omega)
theorem len64_any (s : Nat) (hs : s < 18446744073709551616) (w : World) : Calls Try.prog 66 #[.int .u64 s] w fun e w' => e = .returned (.int .i64 (Lib.bitLen s)) ∧ w' = w := len64_int (s : Int) w (Int.natCast_nonneg _) (by omega)
end Go.Proofs.Ytglggigndhbpcaa
