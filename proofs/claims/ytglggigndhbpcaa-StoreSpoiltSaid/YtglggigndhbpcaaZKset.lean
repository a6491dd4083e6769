/- Sets of places as numbers: plain mathematics. No condition but those that stand in each statement. -/
import Derived.Test.YtglggigndhbpcaaZJk
import Derived.Lib.BitFns
import Derived.Laws.Bits64b
namespace Go.Proofs.Ytglggigndhbpcaa
open Go.RowKit

theorem lenAux_lt : ∀ (f x : Nat), x < 2 ^ f → x < 2 ^ Lib.bitLenAux f x
  | 0, _, h => h
  | f + 1, x, h => by
    unfold Lib.bitLenAux
    split
    · omega
    · have := lenAux_lt f (x / 2) (by rw [Nat.pow_succ] at h; omega)
      rw [Nat.pow_add]
      omega
theorem len_lt {x : Nat} (h : x < 2 ^ 64) : x < 2 ^ Lib.bitLen x := lenAux_lt 64 x h
theorem len_le {x : Nat} (h : x < 2 ^ 64) : Lib.bitLen x ≤ 64 := Lib.bitLen_le x 64 (Nat.le_refl _) h
/-- The places that a set holds, of so many. -/
def idxK (n s : Nat) : List Int := (uptoK n).filter fun p => s.testBit p.toNat
theorem idxK_succ (n s : Nat) : idxK (n + 1) s = idxK n s ++ if s.testBit n = true then [(n : Int)] else [] := by
  unfold idxK
  rw [show uptoK (n + 1) = uptoK n ++ [(n : Int)] from rfl, List.filter_append]
  cases h : s.testBit n <;> simp [h]
theorem idxK_len (n s : Nat) : (idxK n s).length ≤ n := by
  have := List.length_filter_le (fun p : Int => s.testBit p.toNat) (uptoK n)
  rw [uptoK_len] at this
  exact this
theorem idxK_mem {n s : Nat} {p : Int} : p ∈ idxK n s ↔ (0 ≤ p ∧ p < (n : Int)) ∧ s.testBit p.toNat = true := by
  unfold idxK
  rw [List.mem_filter, uptoK_mem]
theorem idxK_more {k s : Nat} (h : s < 2 ^ k) : ∀ d, idxK (k + d) s = idxK k s
  | 0 => rfl
  | d + 1 => by
    rw [show k + (d + 1) = k + d + 1 by omega, idxK_succ, idxK_more h d, Nat.testBit_lt_two_pow (Nat.lt_of_lt_of_le h (Nat.pow_le_pow_right (by omega) (by omega)))]
    simp
theorem idxK_all {s : Nat} (h : s < 2 ^ 64) : idxK (Lib.bitLen s) s = idxK 64 s := by
  have h1 := len_le h
  have := idxK_more (len_lt h) (64 - Lib.bitLen s)
  rw [show Lib.bitLen s + (64 - Lib.bitLen s) = 64 by omega] at this
  exact this.symm
theorem idxK_first {n : Nat} (h : n ≤ 64) : idxK 64 (2 ^ n - 1) = uptoK n := by
  have h1 := idxK_more (k := n) (s := 2 ^ n - 1) (by have := Nat.two_pow_pos n; omega) (64 - n)
  rw [show n + (64 - n) = 64 by omega] at h1
  rw [h1]
  unfold idxK
  refine List.filter_eq_self.2 fun p hp => ?_
  have := uptoK_mem.1 hp
  rw [Nat.testBit_two_pow_sub_one]
  exact decide_eq_true (by omega)
/-- A set without one place. -/
def dropK (s i : Nat) : Nat := s &&& (2 ^ 64 - (2 ^ i + 1))
theorem dropK_lt {s i : Nat} (h : s < 2 ^ 64) : dropK s i < 2 ^ 64 := Nat.lt_of_le_of_lt Nat.and_le_left h
theorem dropK_idx {s i : Nat} (hi : i < 64) : idxK 64 (dropK s i) = lessK i (idxK 64 s) := by
  unfold idxK lessK
  rw [List.filter_filter]
  refine List.filter_congr fun p hp => ?_
  have hp := uptoK_mem.1 hp
  unfold dropK
  rw [Nat.testBit_and, Nat.testBit_two_pow_sub_succ (Nat.pow_lt_pow_right (by omega) hi), Nat.testBit_two_pow]
  have e : (decide (p ≠ (i : Int))) = !decide (i = p.toNat) := by
    by_cases h : i = p.toNat
    · rw [decide_eq_true h, decide_eq_false (by omega)]; rfl
    · rw [decide_eq_false h, decide_eq_true (by omega)]; rfl
  rw [e, decide_eq_true (show p.toNat < 64 by omega), Bool.true_and, Bool.and_comm]
theorem drop_bits {s i : Nat} (h : s < 18446744073709551616) (hi : i < 64) : bits .andNot .u64 (s : Int) ((2 ^ i : Nat) : Int) = (dropK s i : Int) := by
  have h2 : 2 ^ i < 18446744073709551616 := Nat.pow_lt_pow_right (a := 2) (by omega) hi
  have h3 : dropK s i < 2 ^ 64 := dropK_lt h
  show IntKind.u64.wrap ((BitVec.ofInt 64 (s : Int) &&& ~~~BitVec.ofInt 64 ((2 ^ i : Nat) : Int)).toNat : Int) = _
  rw [BitVec.toNat_and, BitVec.toNat_not, BitVec.ofInt_natCast, BitVec.ofInt_natCast, BitVec.toNat_ofNat, BitVec.toNat_ofNat, Nat.mod_eq_of_lt (show s < 2 ^ 64 from h), Nat.mod_eq_of_lt (show 2 ^ i < 2 ^ 64 from h2), IntKind.wrap_u64]
  rw [show (2 : Nat) ^ 64 - 1 - 2 ^ i = 2 ^ 64 - (2 ^ i + 1) by omega]
  show ((dropK s i : Nat) : Int) % 18446744073709551616 = _
  omega
theorem one_bits {i : Nat} (hi : i < 64) : IntKind.u64.wrap (2 ^ i) = ((2 ^ i : Nat) : Int) := by
  have h2 : 2 ^ i < 18446744073709551616 := Nat.pow_lt_pow_right (a := 2) (by omega) hi
  rw [IntKind.wrap_u64]
  have : ((2 : Int) ^ i) = ((2 ^ i : Nat) : Int) := by simp
  rw [this]
  exact Int.emod_eq_of_lt (Int.natCast_nonneg _) (Int.ofNat_lt.2 h2)
theorem and_one_bit (s i : Nat) : s &&& 2 ^ i = if s.testBit i = true then 2 ^ i else 0 := by
  refine Nat.eq_of_testBit_eq fun j => ?_
  rw [Nat.testBit_and, Nat.testBit_two_pow]
  by_cases e : i = j
  · subst e
    cases s.testBit i <;> simp
  · rw [decide_eq_false e, Bool.and_false]
    split
    · rw [Nat.testBit_two_pow, decide_eq_false e]
    · rw [Nat.zero_testBit]
theorem has_bits {s i : Nat} (h : s < 18446744073709551616) (hi : i < 64) : bits .and .u64 (s : Int) ((2 ^ i : Nat) : Int) = if s.testBit i = true then ((2 ^ i : Nat) : Int) else 0 := by
  have h2 : 2 ^ i < 18446744073709551616 := Nat.pow_lt_pow_right (a := 2) (by omega) hi
  rw [bits_and_u64_nat s (2 ^ i) h h2, and_one_bit]
  cases s.testBit i <;> simp
theorem put_bits {s i : Nat} (h : s < 18446744073709551616) (hi : i < 64) : bits .or .u64 (s : Int) ((2 ^ i : Nat) : Int) = ((s ||| 2 ^ i : Nat) : Int) ∧ s ||| 2 ^ i < 18446744073709551616 := by
  have h2 : 2 ^ i < 18446744073709551616 := Nat.pow_lt_pow_right (a := 2) (by omega) hi
  exact ⟨bits_or_u64_nat s (2 ^ i) h h2, Nat.or_lt_two_pow (n := 64) h h2⟩
/-- A place that is greater than all of a set. -/
theorem put_idx {s i : Nat} : ∀ {n : Nat}, i < n → (∀ q ∈ idxK n s, q < (i : Int)) → idxK n (s ||| 2 ^ i) = idxK n s ++ [(i : Int)]
  | n + 1, hi, hq => by
    have hn : s.testBit n = false := by
      cases h : s.testBit n with
      | false => rfl
      | true =>
        have := hq n (by rw [idxK_succ, if_pos h]; simp)
        omega
    have hq2 : ∀ q ∈ idxK n s, q < (i : Int) := fun q h => hq q (by rw [idxK_succ]; exact List.mem_append_left _ h)
    rw [idxK_succ, idxK_succ, Nat.testBit_or, Nat.testBit_two_pow, hn, Bool.false_or, if_neg (show ¬ false = true by decide), List.append_nil]
    by_cases e : i < n
    · rw [put_idx e hq2, if_neg (by simp; omega), List.append_nil]
    · obtain rfl : i = n := by omega
      rw [if_pos (by simp)]
      congr 1
      unfold idxK
      refine List.filter_congr fun p hp => ?_
      have hp := uptoK_mem.1 hp
      rw [Nat.testBit_or, Nat.testBit_two_pow, decide_eq_false (by omega), Bool.or_false]
/-- Ascending places are each less than the later ones. -/
theorem okP.asc {n : Nat} {ps : List Int} (h : okP n ps) {j : Nat} : ∀ {k : Nat}, k < ps.length → j < k → ps.getD j 0 < ps.getD k 0
  | k + 1, hk, hj => by
    have := h (k + 1) hk
    simp only [okK, Bool.and_eq_true, Bool.or_eq_true, decide_eq_true_eq, Nat.add_sub_cancel] at this
    by_cases e : j < k
    · have := okP.asc h (j := j) (k := k) (by omega) e
      omega
    · obtain rfl : j = k := by omega
      omega
theorem okP.less {n : Nat} {ps : List Int} (h : okP n ps) {k : Nat} (hk : k < ps.length) : ∀ q ∈ ps.take k, q < ps.getD k 0 := fun q hq => by
  obtain ⟨j, hj, rfl⟩ := List.getElem_of_mem hq
  rw [List.length_take] at hj
  have := h.asc hk (show j < k by omega)
  rw [List.getElem_take]
  rwa [List.getD_eq_getElem?_getD (l := ps) (i := j), List.getElem?_eq_getElem (show j < ps.length by omega), Option.getD_some] at this
end Go.Proofs.Ytglggigndhbpcaa
