/- The arithmetic of the two stage theorems: reading undoes writing, and what is read is what writing gives. No condition but the bounds that each names. -/
import Derived.Test.YthnkoamabfaioaaMath
namespace Go.Proofs.Ythnkoamabfaioaa
open Go

/-- Byte values as bytes. -/
def bys (l : List Int) : List UInt8 := l.map fun n => UInt8.ofNat n.toNat
theorem strOfNums_eq (l : List Int) : strOfNums l = ⟨(bys l).toArray⟩ := rfl
theorem bys_len (l : List Int) : (bys l).length = l.length := by simp [bys]

theorem ofNat_toNat {n : Nat} (h : n < 256) : (UInt8.ofNat n).toNat = n := by simp; omega

theorem pow_pos' (k : Nat) : 0 < 128 ^ k := Nat.pow_pos (by omega)
theorem step_eq (acc n k : Nat) : acc + n % 128 * 128 ^ k + n / 128 * 128 ^ (k + 1) = acc + n * 128 ^ k := by
  have h : n % 128 * 128 ^ k + n / 128 * (128 ^ k * 128) = (n % 128 + n / 128 * 128) * 128 ^ k := by
    rw [Nat.add_mul, Nat.mul_assoc, Nat.mul_comm (128 ^ k) 128]
  rw [Nat.pow_succ, Nat.add_assoc, h, Nat.mod_add_div' n 128]

/-- Reading what was written. -/
theorem rd_enc (a : Nat) (t : List UInt8) : ∀ (n k acc : Nat), k + (enc n).length ≤ 6 → (0 < k → 0 < n) → acc + n * 128 ^ k ≤ 1099511627776 →
    rd a k acc (bys (enc n) ++ t) = (acc + n * 128 ^ k, a + k + (enc n).length, 0) := by
  intro n
  induction n using Nat.strongRecOn with
  | _ n ih =>
    intro k acc hl hk hb
    by_cases h : n < 128
    · rw [enc_small h] at hl ⊢
      have e : bys [(n : Int)] ++ t = UInt8.ofNat n :: t := by simp [bys]
      have hn : (UInt8.ofNat n).toNat = n := ofNat_toNat (by omega)
      have hm : n % 128 = n := Nat.mod_eq_of_lt h
      simp only [List.length_cons, List.length_nil] at hl
      rw [e, rd_end (by rw [hn]; omega) (by rw [hn]; exact h) (by rw [hn, hm]; omega), hn, hm]
      simp
    · rw [enc_more h] at hl ⊢
      have hc : n % 128 + 128 < 256 := by omega
      have e : bys (((n % 128 + 128 : Nat) : Int) :: enc (n / 128)) ++ t = UInt8.ofNat (n % 128 + 128) :: (bys (enc (n / 128)) ++ t) := by simp only [bys, List.map_cons, Int.toNat_natCast, List.cons_append]
      have hn : (UInt8.ofNat (n % 128 + 128)).toNat = n % 128 + 128 := ofNat_toNat hc
      have hm : (n % 128 + 128) % 128 = n % 128 := by omega
      have hp := enc_pos (n / 128)
      simp only [List.length_cons] at hl
      rw [e, rd_on (by rw [hn]; omega) (by rw [hn]; omega), hn, hm, ih (n / 128) (by omega) (k + 1) _ (by omega) (by omega) (by rw [step_eq]; exact hb), step_eq]
      simp; omega

/-- What is read is what writing gives. -/
theorem rd_cases (a : Nat) : ∀ (l : List UInt8) (k acc : Nat), rd a k acc l = (0, 0, 20) ∨ rd a k acc l = (0, 0, 21) ∨
    ∃ m cnt, rd a k acc l = (acc + m * 128 ^ k, a + k + cnt, 0) ∧ 1 ≤ cnt ∧ cnt ≤ l.length ∧ l.take cnt = bys (enc m) ∧ (0 < k → 0 < m) ∧ acc + m * 128 ^ k ≤ 1099511627776
  | [], k, acc => .inr (.inl rfl)
  | b :: t, k, acc => by
    have hb := b.toNat_lt
    by_cases he : k = 6 ∨ (0 < k ∧ b.toNat = 0)
    · exact .inl (rd_err he)
    · by_cases h7 : b.toNat < 128
      · by_cases hg : 1099511627776 < acc + b.toNat % 128 * 128 ^ k
        · exact .inl (rd_big he h7 hg)
        · have hm : b.toNat % 128 = b.toNat := Nat.mod_eq_of_lt h7
          refine .inr (.inr ⟨b.toNat, 1, ?_, by omega, by simp, ?_, by omega, by rw [hm] at hg; omega⟩)
          · rw [rd_end he h7 hg, hm]
          · rw [enc_small h7]; simp [bys]
      · rw [rd_on he h7]
        rcases rd_cases a t (k + 1) (acc + b.toNat % 128 * 128 ^ k) with h | h | ⟨m, cnt, h, h1, h2, h3, h4, h5⟩
        · exact .inl h
        · exact .inr (.inl h)
        · have hm0 := h4 (by omega)
          have e1 : (b.toNat % 128 + 128 * m) % 128 = b.toNat % 128 := by omega
          have e2 : (b.toNat % 128 + 128 * m) / 128 = m := by omega
          have hs := step_eq acc (b.toNat % 128 + 128 * m) k
          rw [e1, e2] at hs
          refine .inr (.inr ⟨b.toNat % 128 + 128 * m, cnt + 1, ?_, by omega, by simp; omega, ?_, by omega, by rw [← hs]; exact h5⟩)
          · rw [h, hs]; congr 2; omega
          · rw [enc_more (by omega), e1, e2, List.take_succ_cons, h3]
            have : UInt8.ofNat (b.toNat % 128 + 128) = b := by
              apply UInt8.toNat_inj.1
              rw [ofNat_toNat (by omega)]; omega
            simp only [bys, List.map_cons, Int.toNat_natCast, this]
end Go.Proofs.Ythnkoamabfaioaa
