/- The contract of the program's own Core. Condition: the clauses lie in memory. -/
import Derived.Test.YtglggigndhbpcaaZKsolv
import Derived.Test.YtglggigndhbpcaaZJrk
import Derived.Test.YtglggigndhbpcaaZHr
namespace Go.Proofs.Ytglggigndhbpcaa
open Go.RowKit

theorem first_in {n : Nat} (hn : n ≤ 60) : 2 ^ n - 1 < 18446744073709551616 ∧ idxK 64 (2 ^ n - 1) = uptoK n := by
  have h2 : 2 ^ n < 18446744073709551616 := Nat.pow_lt_pow_right (a := 2) (by omega) (show n < 64 by omega)
  exact ⟨by omega, idxK_first (by omega)⟩
set_option maxRecDepth 100000 in
set_option maxHeartbeats 8000000 in
theorem coreC : CoreC := fun vars l a cap B w hin hB => by
  have hlen := hin.len
  have CR := hRight_any vars l a cap B w hin hB
  have HN : Hid (hrB vars l = false → coreR vars l = [] ∧ coreE vars l = 1) := Lib.hid (fun h => by simp [coreR, coreE, h])
  have HP : Hid (hrB vars l = true → posB vars l = true → coreR vars l = [] ∧ coreE vars l = 0) := Lib.hid (fun h1 h2 => by simp [coreR, coreE, h1, h2])
  have HY : Hid (hrB vars l = true → posB vars l = false → coreR vars l = coreK vars l l.length ∧ coreE vars l = 0) := Lib.hid (fun h1 h2 => by simp [coreR, coreE, h1, h2])
  have HL60 : Hid (hrB vars l = true → l.length ≤ 60) := Lib.hid (fun h => (hrB_of h).2.2.1)
  generalize coreR vars l = R at HN HP HY ⊢
  generalize coreE vars l = E at HN HP HY ⊢
  cases hr : hrB vars l with
  | false => as_aux_lemma =>
    obtain ⟨rfl, rfl⟩ := HN.out hr
    rw [hr] at CR
    have CR2 := Lib.hid CR
    clear CR HN HP HY hr hin HL60
    go_enter Try.func43, Try.ntmps43
    go_wp2_with (go_at_call 30; refine CR2.out.mono ?_; rintro e w1 ⟨rfl, hb1⟩)
    go_ret2
    exact RowPost.nil rfl hb1
  | true =>
    rw [hr] at CR
    have CR2 := Lib.hid CR
    have hl60 := HL60.out hr
    obtain ⟨f1, f2⟩ := first_in hl60
    have HF := Lib.hid (first_any l.length (by omega))
    have hf0 : idxK 64 (2 ^ l.length - 1) = coreK vars l 0 := f2
    have SV := Lib.hid (fun (W : World) (hW : Below w.heap.size w W) => solvable_any vars l (2 ^ l.length - 1) a cap B W f1 (by rw [hf0]; exact coreK_in vars l 0) (hin.below (hW.mono hB)) (Nat.le_trans hB hW.size))
    have SL := Lib.hid (fun (s : Nat) (W : World) (hs : s < 18446744073709551616) (hi : InP l.length (idxK 64 s)) (hW : Below w.heap.size w W) => solvable_any vars l s a cap B W hs hi (hin.below (hW.mono hB)) (Nat.le_trans hB hW.size))
    rw [f2, pick_all] at SV
    generalize 2 ^ l.length - 1 = S at HF f1 hf0 SV
    clear f2
    cases hp : posB vars l with
    | true => as_aux_lemma =>
      obtain ⟨rfl, rfl⟩ := HP.out hr hp
      rw [hp] at SV
      clear HN HP HY hr hp hin CR HL60 SL hf0
      go_enter Try.func43, Try.ntmps43
      go_wp2_with (first | (go_at_call 30; refine CR2.out.mono ?_; rintro e w1 ⟨rfl, hb1⟩) | (go_at_call 56; refine (HF.out _).mono ?_; rintro e w2 ⟨rfl, rfl⟩) | (go_at_call 57; refine (SV.out _ hb1).mono ?_; rintro e w3 ⟨rfl, hb3⟩))
      go_ret2
      exact RowPost.nil rfl (Below.step hb1 hb3 (Nat.le_refl _))
    | false =>
      obtain ⟨hR, rfl⟩ := HY.out hr hp
      rw [hp] at SV
      have HRK := Lib.hid hR
      clear HN HP HY hr hp hin CR HL60 hR
      go_enter Try.func43, Try.ntmps43
      go_wp2_with (first | (go_at_call 30; refine CR2.out.mono ?_; rintro e w1 ⟨rfl, hb1⟩) | (go_at_call 56; refine (HF.out _).mono ?_; rintro e w2 ⟨rfl, rfl⟩) | (go_at_call 57; refine (SV.out _ hb1).mono ?_; rintro e w3 ⟨rfl, hb3⟩))
      have HB3 := Lib.hid (Below.step hb1 hb3 (Nat.le_refl _))
      clear hb1 hb3 SV HF CR2
      go_loopw [6, 22] (fun sv iv wr => ∃ (i s : Nat), sv = .int .u64 s ∧ iv = .int .i64 i ∧ i ≤ l.length ∧ s < 18446744073709551616 ∧ Hid (idxK 64 s = coreK vars l i) ∧ Hid (Below w.heap.size w wr)) (fun _ iv _ => l.length - (intOf iv).toNat)
      case atStart => exact ⟨0, S, rfl, rfl, Nat.zero_le _, f1, Lib.hid hf0, HB3⟩
      case round =>
        obtain ⟨i, s, rfl, rfl, hi, hs, HS, hb⟩ := hrel
        clear hf0 f1
        by_cases hil : i < l.length
        · have hil' : (i : Int) < (l.length : Int) := by omega
          have HO := Lib.hid (one_any i (by omega))
          have hdrop := drop_bits hs (show i < 64 by omega)
          have hd2 : dropK s i < 18446744073709551616 := dropK_lt hs
          have HDI : Hid (idxK 64 (dropK s i) = lessK i (coreK vars l i)) := Lib.hid (by rw [dropK_idx (show i < 64 by omega), HS.out])
          have HST : Hid (coreK vars l (i + 1) = if posB vars (pickL l (lessK i (coreK vars l i))) = true then coreK vars l i else lessK i (coreK vars l i)) := Lib.hid rfl
          have SD := SL.out (dropK s i) wr hd2 (by rw [HDI.out]; exact lessK_in (coreK_in vars l i)) hb.out
          rw [HDI.out] at SD
          have HSD := Lib.hid SD
          clear SD
          generalize dropK s i = d at hdrop hd2 HDI HSD
          generalize ((2 ^ i : Nat) : Int) = q at HO hdrop
          cases hp : posB vars (pickL l (lessK i (coreK vars l i))) with
          | true =>
            have HN2 : Hid (idxK 64 s = coreK vars l (i + 1)) := Lib.hid (by rw [HST.out, hp, if_pos rfl]; exact HS.out)
            rw [hp] at HSD
            clear HST HDI hp
            go_wp2_with (first | (go_at_call 58; refine (HO.out _).mono ?_; rintro e w2 ⟨rfl, rfl⟩) | (go_at_call 57; refine HSD.out.mono ?_; rintro e w3 ⟨rfl, hb3⟩))
            have HB4 := Lib.hid (Below.step hb.out hb3 (Nat.le_refl _))
            go_roundw
            case rel => exact ⟨i + 1, s, rfl, by go_num, by omega, hs, HN2, HB4⟩
            case measure => simp [intOf]; omega
          | false =>
            have HN2 : Hid (idxK 64 d = coreK vars l (i + 1)) := Lib.hid (by rw [HST.out, hp, if_neg (by decide)]; exact HDI.out)
            rw [hp] at HSD
            clear HST HDI hp
            go_wp2_with (first | (go_at_call 58; refine (HO.out _).mono ?_; rintro e w2 ⟨rfl, rfl⟩) | (go_at_call 57; refine HSD.out.mono ?_; rintro e w3 ⟨rfl, hb3⟩))
            have HB4 := Lib.hid (Below.step hb.out hb3 (Nat.le_refl _))
            go_roundw
            case rel => exact ⟨i + 1, d, rfl, by go_num, by omega, hd2, HN2, HB4⟩
            case measure => simp [intOf]; omega
        · obtain rfl : i = l.length := by omega
          have hlt' : ¬ (l.length : Int) < (l.length : Int) := by omega
          have HX := Lib.hid (idx_any s hs wr)
          rw [HS.out, ← HRK.out] at HX
          clear HS HRK SL
          go_wp2_with (go_at_call 59; refine HX.out.mono ?_; rintro e w1 ⟨xp, cp, rfl, hown1, hb1⟩)
          go_ret2
          exact ⟨xp, cp, rfl, hown1.low hb.out.size, Below.step hb.out hb1 (Nat.le_refl _)⟩
end Go.Proofs.Ytglggigndhbpcaa
