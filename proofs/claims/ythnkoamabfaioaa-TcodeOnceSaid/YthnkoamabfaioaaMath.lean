/- The plain arithmetic of base-128 numbers as lists of byte values: what an encoding is, how it grows at its end, how long it is. No condition. -/
import Derived.Laws.BytesArg
import Derived.Laws.Concat
import Derived.Laws.Bits128
namespace Go.Proofs.Ythnkoamabfaioaa
open Go

/-- The byte values of n's encoding, the least significant digit first. -/
def enc (n : Nat) : List Int := if n < 128 then [(n : Int)] else ((n % 128 + 128 : Nat) : Int) :: enc (n / 128)
termination_by n
decreasing_by omega

theorem enc_small {n : Nat} (h : n < 128) : enc n = [(n : Int)] := by rw [enc]; simp [h]
theorem enc_more {n : Nat} (h : ¬ n < 128) : enc n = ((n % 128 + 128 : Nat) : Int) :: enc (n / 128) := by rw [enc]; simp [h]
theorem enc_pos (n : Nat) : 0 < (enc n).length := by
  by_cases h : n < 128
  · rw [enc_small h]; simp
  · rw [enc_more h]; simp
theorem enc_len : ∀ (k n : Nat), n < 128 ^ (k + 1) → (enc n).length ≤ k + 1
  | 0, n, h => by rw [enc_small (by omega)]; simp
  | k + 1, n, h => by
    by_cases h' : n < 128
    · rw [enc_small h']; simp
    · rw [enc_more h']
      have := enc_len k (n / 128) (by rw [Nat.pow_succ] at h; exact Nat.div_lt_of_lt_mul (by rw [Nat.mul_comm]; exact h))
      simp; omega
theorem enc_len6 {n : Nat} (h : n ≤ 1099511627776) : (enc n).length ≤ 6 := enc_len 5 n (by omega)

theorem strOfNums_append (a b : List Int) : strOfNums a ++ strOfNums b = strOfNums (a ++ b) := by
  unfold strOfNums
  rw [ByteArray.mk_append_mk]; simp

theorem or128_fin : ∀ y : Fin 256, bits .or .u8 ((y.val : Nat) : Int) 128 = ((y.val % 128 + 128 : Nat) : Int) := by decide +kernel
/-- The lowest digit of k with the mark that more follow. -/
theorem or128 (k : Nat) : bits .or .u8 ((k : Int) % 256) 128 = ((k % 128 + 128 : Nat) : Int) := by
  have := or128_fin ⟨k % 256, Nat.mod_lt _ (by omega)⟩
  simp only at this
  rw [show ((k : Int) % 256) = ((k % 256 : Nat) : Int) by omega, this]; omega

theorem andNot128_fin : ∀ y : Fin 256, bits .andNot .u8 ((y.val : Nat) : Int) 128 = ((y.val % 128 : Nat) : Int) := by decide +kernel
/-- The lowest digit without the mark. -/
theorem andNot128 (b : UInt8) : bits .andNot .u8 (b.toNat : Int) 128 = ((b.toNat % 128 : Nat) : Int) := andNot128_fin ⟨b.toNat, b.toNat_lt⟩

theorem wrap_u64 (n : Int) : IntKind.u64.wrap n = n % 18446744073709551616 := by simp [IntKind.wrap, IntKind.bits, IntKind.signed]
theorem wraps_u64 (n : Int) (h₀ : 0 ≤ n) (h₁ : n < 2 ^ 64) : IntKind.u64.wrap n = n := by rw [wrap_u64]; omega
theorem pow7 (k : Nat) : 2 ^ (7 * k) = 128 ^ k := by rw [Nat.pow_mul]
/-- One more digit, written above those that have been read. -/
theorem put_digit (acc k : Nat) (b : UInt8) (hk : k ≤ 5) (h : acc < 128 ^ k) :
    bits .or .u64 (acc : Int) (IntKind.u64.wrap (IntKind.u64.wrap (bits .andNot .u8 (b.toNat : Int) 128) * 2 ^ (7 * k))) = ((acc + b.toNat % 128 * 128 ^ k : Nat) : Int) := by
  have hb : b.toNat % 128 < 128 := Nat.mod_lt _ (by omega)
  have hp : 128 ^ k ≤ 128 ^ 5 := Nat.pow_le_pow_right (by omega) hk
  have hm : b.toNat % 128 * 128 ^ k ≤ 127 * 128 ^ k := Nat.mul_le_mul_right _ (by omega)
  rw [andNot128, wraps_u64 ((b.toNat % 128 : Nat) : Int) (by omega) (by omega)]
  have e : ((b.toNat % 128 : Nat) : Int) * 2 ^ (7 * k) = ((b.toNat % 128 * 128 ^ k : Nat) : Int) := by
    rw [← pow7]; simp
  rw [e, wraps_u64 _ (by omega) (by omega)]
  have hc : ∀ x y : Int, bits .or .u64 x y = bits .or .u64 y x := fun x y => by simp only [bits, BitVec.or_comm]
  rw [hc, bits_join .u64 64 (by decide) wraps_u64 (7 * k) _ _ (by omega) ?_ (by omega) (by omega) ?_ (by omega)]
  · omega
  · have : ((2 : Int) ^ (7 * k)) = ((128 ^ k : Nat) : Int) := by rw [← pow7]; simp
    rw [this]; rw [Int.natCast_mul]; exact Int.mul_emod_left _ _
  · have : ((2 : Int) ^ (7 * k)) = ((128 ^ k : Nat) : Int) := by rw [← pow7]; simp
    rw [this]; omega

/-- What stands at a place: k digits have been read and make acc; a: where the number began; l: the bytes that follow. -/
def rd (a k acc : Nat) : List UInt8 → Nat × Nat × Nat
  | [] => (0, 0, 21)
  | b :: t => if k = 6 ∨ (0 < k ∧ b.toNat = 0) then (0, 0, 20)
    else if b.toNat < 128 then (if 1099511627776 < acc + b.toNat % 128 * 128 ^ k then (0, 0, 20) else (acc + b.toNat % 128 * 128 ^ k, a + k + 1, 0))
    else rd a (k + 1) (acc + b.toNat % 128 * 128 ^ k) t
theorem rd_nil (a k acc : Nat) : rd a k acc [] = (0, 0, 21) := rfl
theorem rd_err {a k acc : Nat} {b : UInt8} {t : List UInt8} (h : k = 6 ∨ (0 < k ∧ b.toNat = 0)) : rd a k acc (b :: t) = (0, 0, 20) := by rw [rd, if_pos h]
theorem rd_big {a k acc : Nat} {b : UInt8} {t : List UInt8} (h : ¬ (k = 6 ∨ (0 < k ∧ b.toNat = 0))) (hb : b.toNat < 128) (hg : 1099511627776 < acc + b.toNat % 128 * 128 ^ k) : rd a k acc (b :: t) = (0, 0, 20) := by
  rw [rd, if_neg h, if_pos hb, if_pos hg]
theorem rd_end {a k acc : Nat} {b : UInt8} {t : List UInt8} (h : ¬ (k = 6 ∨ (0 < k ∧ b.toNat = 0))) (hb : b.toNat < 128) (hg : ¬ 1099511627776 < acc + b.toNat % 128 * 128 ^ k) : rd a k acc (b :: t) = (acc + b.toNat % 128 * 128 ^ k, a + k + 1, 0) := by
  rw [rd, if_neg h, if_pos hb, if_neg hg]
theorem rd_on {a k acc : Nat} {b : UInt8} {t : List UInt8} (h : ¬ (k = 6 ∨ (0 < k ∧ b.toNat = 0))) (hb : ¬ b.toNat < 128) : rd a k acc (b :: t) = rd a (k + 1) (acc + b.toNat % 128 * 128 ^ k) t := by
  rw [rd, if_neg h, if_neg hb]
theorem drop_at (s : ByteArray) (i : Nat) (h : i < s.size) : s.data.toList.drop i = s[i] :: s.data.toList.drop (i + 1) := by
  rw [List.drop_eq_getElem_cons (by simpa using h)]; rfl
theorem acc_lt (acc k : Nat) (b : UInt8) (h : acc < 128 ^ k) : acc + b.toNat % 128 * 128 ^ k < 128 ^ (k + 1) := by
  have hm : b.toNat % 128 * 128 ^ k ≤ 127 * 128 ^ k := Nat.mul_le_mul_right _ (by omega)
  rw [Nat.pow_succ]; omega

/-- The lowest forty bits of any number. -/
theorem and40 (n : Int) : bits .and .i64 n 1099511627775 = ((n % 1099511627776).toNat : Int) := by
  have h40 : (BitVec.ofInt 64 1099511627775).toNat = 2 ^ 40 - 1 := by decide
  have key : (BitVec.ofInt 64 n &&& BitVec.ofInt 64 1099511627775).toNat = (n % ((2 ^ 64 : Nat) : Int)).toNat % 2 ^ 40 := by
    rw [BitVec.toNat_and, BitVec.toNat_ofInt, h40, Nat.and_two_pow_sub_one_eq_mod]
  show IntKind.i64.wrap ((BitVec.ofInt 64 n &&& BitVec.ofInt 64 1099511627775).toNat : Nat) = _
  rw [key, IntKind.wrap_i64]
  omega
end Go.Proofs.Ythnkoamabfaioaa
