/- The contracts of the program's test whether the clauses of a set have a model, and of its test whether places are in order. Conditions stand in each statement. -/
import Derived.Test.YtnfmcenedohdnaaKbit
import Derived.Test.YtnfmcenedohdnaaHrow2
import Derived.Test.YtnfmcenedohdnaaHsm
namespace Go.Proofs.Ytnfmcenedohdnaa
open Go.RowKit

theorem jsolve_at {vars : Int} {N : Nat} {l : List Cl} {x : Option Addr} {c : Nat} {W1 W : World} (hc : ClsIn W1 (· < W1.heap.size) l x c) (b1 : Below W1.heap.size W1 W) (hl : l.length = N) : Calls Try.prog 29 #[.int .i64 vars, .slice x N c] W (SiPost vars l W) := by
  subst hl
  exact jSolve_int vars l x c W.heap.size W ((hc.below b1).mono b1.size) (Nat.le_refl _)
set_option maxRecDepth 100000 in
set_option maxHeartbeats 8000000 in
theorem solvable_any (vars : Int) (l : List Cl) (s : Nat) (a : Option Addr) (cap B : Nat) (w : World) (hs : s < 18446744073709551616) (hi : InP l.length (idxK 64 s)) (hin : ClsIn w (· < B) l a cap) (hB : B ≤ w.heap.size) :
    Calls Try.prog 19 #[.int .i64 vars, .slice a l.length cap, .int .u64 s] w fun e w' => e = .returned (.bool (posB vars (pickL l (idxK 64 s)))) ∧ Below w.heap.size w w' := by
  have hll := hin.len
  have HX := Lib.hid (idx_any s hs w)
  have h64 := idxK_len 64 s
  generalize idxK 64 s = ps at hi HX h64 ⊢
  obtain ⟨V, hV⟩ : ∃ V, V = posB vars (pickL l ps) := ⟨_, rfl⟩
  have HV := Lib.hid hV
  rw [← hV]
  clear hV
  have HI := Lib.hid (hin.mono hB)
  have HIN := Lib.hid hi
  have HPT := Lib.hid (fun k (hk : k < ps.length) => pickL_take l hk)
  have HPL := Lib.hid (pickL_len l ps)
  clear hin hi hB
  go_enter Try.func19, Try.ntmps19
  go_wp2_with (go_at_call 21; refine HX.out.mono ?_; rintro e w1 ⟨xp, cp, rfl, hown1, hb1⟩)
  have HIP := Lib.hid hown1.ints
  have HB1 := Lib.hid hb1
  have HI1 : Hid (ClsIn w1 (· < w1.heap.size) l a cap) := Lib.hid ((HI.out.below hb1).mono hb1.size)
  clear hown1 hb1 HI HX
  go_loopw [7, 17] (fun uv iv wr => ∃ (k : Nat) (u : Value), uv = u ∧ iv = .int .i64 k ∧ k ≤ ps.length ∧ Hid (CRow wr w1.heap.size w1.heap.size u (pickL l (ps.take k))) ∧ Hid (Below w1.heap.size w1 wr)) (fun _ iv _ => ps.length - (intOf iv).toNat)
  case atStart => exact ⟨0, _, rfl, rfl, Nat.zero_le _, Lib.hid (CRow.nil _ _ _), Lib.hid (Below.refl _ _)⟩
  case round =>
    obtain ⟨k, u, rfl, rfl, hk, hown, hb⟩ := hrel
    by_cases hlt : k < ps.length
    · obtain ⟨gp, op, rfl, hgB, hcp⟩ := (HIP.out.below hb.out).some (by omega)
      have hp := HIN.out _ (getD_mem 0 hlt)
      have ep := hcp k hlt
      have HN := Lib.hid (HPT.out k hlt)
      generalize ps.getD k 0 = p at hp ep HN
      obtain ⟨p0, p1⟩ := hp
      obtain ⟨q, rfl⟩ : ∃ q : Nat, p = (q : Int) := ⟨p.toNat, by omega⟩
      rw [Int.toNat_natCast] at HN
      obtain ⟨b, o, fr, tv, to, a', c', rfl, hbB, hget, e0, hat, e1, e2⟩ := (HI1.out.below hb.out).at (k := q) (by omega)
      rw [hget] at HN
      have hlt' : (k : Int) < (ps.length : Int) := by omega
      have hk0 : (0 : Int) ≤ (k : Int) := by omega
      obtain ⟨g2, c2, w3, hrun, hrow3, ht3⟩ := hown.out.push (Nat.le_refl _) 22 (fr, (tv, to)) hat (by rw [pickL_len, List.length_take]; omega) hb.out.size
      have hkl : (pickL l (ps.take k)).length = k := by rw [pickL_len, List.length_take]; omega
      rw [hkl] at hrun hrow3 ht3
      have HRUN := Lib.hid hrun
      have HROW : Hid (CRow w3 w1.heap.size w1.heap.size (.slice (some ⟨g2, 0, none⟩) (k + 1) c2) (pickL l (ps.take (k + 1)))) := Lib.hid (by rw [HN.out]; exact hrow3)
      have HB3 := Lib.hid (hb.out.trans (ht3.low hb.out.size (fun b hO => (hown.out.lt b hO).1)))
      clear hget hat hcp hrun hrow3 ht3 hown hkl HN
      go_wp2_with (at_builtin; refine wpList_append_run (by rfl) _ _ _ (by rfl) (by rfl) (by rfl) HRUN.out ?_)
      go_roundw
      case rel => exact ⟨k + 1, _, rfl, by go_num, by omega, HROW, HB3⟩
      case measure => simp [intOf]; omega
    · obtain rfl : k = ps.length := by omega
      have hlt' : ¬ (ps.length : Int) < (ps.length : Int) := by omega
      have HROW : Hid (CRow wr w1.heap.size w1.heap.size _ (pickL l ps)) := Lib.hid (by have := hown.out; rwa [List.take_length] at this)
      obtain ⟨x, c, rfl⟩ := HROW.out.form
      have HCL := Lib.hid (HROW.out.cls hb.out.size)
      have HBE := Lib.hid (Below.step HB1.out hb.out (Nat.le_refl _))
      rw [HPL.out]
      clear hown HROW
      go_wp2_with fail
      refine (jsolve_at HCL.out (Below.refl _ _) HPL.out).mono ?_
      rintro e w7 ⟨z7, is7, n7, er7, x7, c7, rfl, hs7, _, b7⟩
      have h7 := hs7.told.1
      have B7 := Lib.hid (Below.step HBE.out b7 (Nat.le_refl _))
      rw [← HV.out] at h7
      subst h7
      clear hs7 b7
      go_wp2_with fail
      go_ret
      exact ⟨rfl, B7.out⟩
theorem ok_first {n : Nat} {ps : List Int} : okK n ps 0 = (decide (0 ≤ ps.getD 0 0) && decide (ps.getD 0 0 < (n : Int))) := by simp [okK]
set_option maxRecDepth 100000 in
set_option maxHeartbeats 4000000 in
theorem ascend_any (n : Nat) (ps : List Int) (a : Option Addr) (cap B : Nat) (w : World) (hin : IntsIn w (· < B) ps a cap) (hB : B ≤ w.heap.size) :
    Calls Try.prog 25 #[.slice a ps.length cap, .int .i64 n] w fun e w' => e = .returned (.bool (decide (okP n ps))) ∧ Below w.heap.size w w' := by
  have hpl := hin.len
  have HI := Lib.hid (hin.mono hB)
  have HY : Hid ((∀ j, j < ps.length → okK n ps j = true) → decide (okP n ps) = true) := Lib.hid (fun h => decide_eq_true h)
  have HN : Hid (∀ j, j < ps.length → okK n ps j = false → decide (okP n ps) = false) := Lib.hid (fun j hj h => decide_eq_false (fun hp => by have := hp j hj; rw [h] at this; cases this))
  generalize decide (okP n ps) = R at HY HN ⊢
  clear hin
  go_enter Try.func25, Try.ntmps25
  go_wp2_with fail
  go_loopw [5, 10] (fun bv iv wr => ∃ (k : Nat) (b : Int), bv = .int .i64 b ∧ iv = .int .i64 k ∧ k ≤ ps.length ∧ ((k = 0 ∧ b = -1) ∨ (1 ≤ k ∧ b = ps.getD (k - 1) 0 ∧ 0 ≤ b)) ∧ Hid (∀ j, j < k → okK n ps j = true) ∧ Hid (Below w.heap.size w wr)) (fun _ iv _ => ps.length - (intOf iv).toNat)
  case atStart => exact ⟨0, -1, rfl, rfl, Nat.zero_le _, .inl ⟨rfl, rfl⟩, Lib.hid (fun j h => absurd h (by omega)), Lib.hid (Below.refl _ _)⟩
  case round =>
    obtain ⟨k, b, rfl, rfl, hk, hbf, hok, hb⟩ := hrel
    by_cases hlt : k < ps.length
    · obtain ⟨g, o, rfl, _, hc⟩ := (HI.out.below hb.out).some (by omega)
      have ek := hc k hlt
      have hlt' : (k : Int) < (ps.length : Int) := by omega
      have hk0 : (0 : Int) ≤ (k : Int) := by omega
      have HOK : Hid (okK n ps k = true ↔ (b < ps.getD k 0 ∧ ps.getD k 0 < (n : Int))) := Lib.hid (by
        rcases hbf with ⟨rfl, rfl⟩ | ⟨h1, h2, h3⟩
        · rw [ok_first]; simp; omega
        · simp only [okK, Bool.and_eq_true, Bool.or_eq_true, decide_eq_true_eq]
          rw [← h2]
          omega)
      have HNO := Lib.hid (HN.out k hlt)
      have HUP := Lib.hid (fun h => up_to (p := fun j => okK n ps j = true) hok.out h)
      clear hc hok hbf
      obtain ⟨p, hp⟩ : ∃ p, p = ps.getD k 0 := ⟨_, rfl⟩
      have HP := Lib.hid hp
      rw [← hp] at ek HOK
      clear hp
      by_cases h1 : p ≤ b
      · have HF := Lib.hid (HNO.out (by cases h : okK n ps k with | false => rfl | true => have := HOK.out.1 h; omega))
        clear HOK HUP HNO HY HN
        have dA : decide (p ≤ b) = true := decide_eq_true h1
        go_wp2_with fail
        go_ret
        exact ⟨by rw [HF.out]; rfl, hb.out⟩
      · by_cases h2 : (n : Int) ≤ p
        · have HF := Lib.hid (HNO.out (by cases h : okK n ps k with | false => rfl | true => have := HOK.out.1 h; omega))
          clear HOK HUP HNO HY HN
          have dA : decide (p ≤ b) = false := decide_eq_false h1
          have dB : decide ((n : Int) ≤ p) = true := decide_eq_true h2
          go_wp2_with fail
          go_ret
          exact ⟨by rw [HF.out]; rfl, hb.out⟩
        · have HO := Lib.hid (HOK.out.2 ⟨by omega, by omega⟩)
          have HN2 := Lib.hid (HUP.out HO.out)
          have HP0 : Hid (0 ≤ p) := Lib.hid (by
            have h := HO.out
            simp only [okK, Bool.and_eq_true, decide_eq_true_eq] at h
            have := h.1.1
            rwa [← HP.out] at this)
          clear HOK HUP HNO HO
          have dA : decide (p ≤ b) = false := decide_eq_false h1
          have dB : decide ((n : Int) ≤ p) = false := decide_eq_false h2
          go_wp2_with fail
          go_roundw
          case rel => exact ⟨k + 1, p, rfl, by go_num, by omega, .inr ⟨by omega, HP.out, HP0.out⟩, HN2, hb⟩
          case measure => simp [intOf]; omega
    · obtain rfl : k = ps.length := by omega
      have hlt' : ¬ (ps.length : Int) < (ps.length : Int) := by omega
      have HF := Lib.hid (HY.out hok.out)
      clear HY HN hok hbf
      go_wp2_with fail
      go_ret
      exact ⟨by rw [HF.out]; rfl, hb.out⟩
end Go.Proofs.Ytnfmcenedohdnaa
