/- The contract of the document's own Proves. Condition: the clauses and the places lie in memory; at most 1000 places. -/
import Derived.Test.YtnfmcenedohdnaaKrcore
import Derived.Test.YtnfmcenedohdnaaHsm
namespace Go.Proofs.Ytnfmcenedohdnaa
open Go.RowKit

theorem provB_bad {vars : Int} {l : List Cl} {ps : List Int} {k : Nat} (hk : k < ps.length) (h : okK l.length ps k = false) : provB vars l ps = false := by
  unfold provB
  rw [decide_eq_false (fun hp => by have := hp k hk; rw [h] at this; cases this)]
  simp
theorem provB_ok {vars : Int} {l : List Cl} {ps : List Int} (hr : hrB vars l = true) (h : ∀ k, k < ps.length → okK l.length ps k = true) : provB vars l ps = !posB vars (pickL l ps) := by
  unfold provB
  rw [hr, decide_eq_true (show okP l.length ps from h)]
  simp
set_option maxRecDepth 100000 in
set_option maxHeartbeats 1000000 in
theorem r10Proves_any (vars : Int) (l : List Cl) (ps : List Int) (a ap : Option Addr) (cap cp B : Nat) (w : World) (hin : ClsIn w (· < B) l a cap) (hip : IntsIn w (· < B) ps ap cp) (hB : B ≤ w.heap.size) (hpl : ps.length ≤ 1000) :
    Calls Try.prog 16 #[.int .i64 vars, .slice a l.length cap, .slice ap ps.length cp] w fun e w' => e = .returned (.bool (provB vars l ps)) ∧ Below w.heap.size w w' := by
  have hlen := hin.len
  have HC : Hid (ClsIn w (· < w.heap.size) l a cap) := Lib.hid (hin.mono hB)
  have HP : Hid (IntsIn w (· < w.heap.size) ps ap cp) := Lib.hid (hip.mono hB)
  have CR := r8Right_any vars l a cap B w hin hB
  have HBAD := Lib.hid (fun k (hk : k < ps.length) (h : okK l.length ps k = false) => provB_bad (vars := vars) hk h)
  cases hr : hrB vars l with
  | false =>
    rw [hr] at CR
    have CR2 := Lib.hid CR
    have HV : Hid (provB vars l ps = false) := Lib.hid (by unfold provB; rw [hr]; rfl)
    generalize provB vars l ps = V at HV ⊢
    clear CR hin hip HBAD hr
    go_enter Try.func16, Try.ntmps16
    go_wp2_with (go_at_call 22; refine CR2.out.mono ?_; rintro e w1 ⟨rfl, hb1⟩)
    go_ret
    exact ⟨by rw [HV.out]; rfl, hb1⟩
  | true =>
    rw [hr] at CR
    have CR2 := Lib.hid CR
    have HR := Lib.hid hr
    have HV := Lib.hid (fun h => provB_ok (ps := ps) hr h)
    generalize provB vars l ps = V at HV HBAD ⊢
    clear CR hin hip hr
    go_enter Try.func16, Try.ntmps16
    go_wp2_with (go_at_call 22; refine CR2.out.mono ?_; rintro e w1 ⟨rfl, hb1⟩)
    go_loopw [7] (fun iv wr => ∃ k : Nat, iv = .int .i64 k ∧ k ≤ ps.length ∧ Hid (∀ j, j < k → okK l.length ps j = true) ∧ Hid (Below w.heap.size w wr)) (fun iv _ => ps.length - (intOf iv).toNat)
    case atStart => exact ⟨0, rfl, Nat.zero_le _, Lib.hid (fun j h => absurd h (by omega)), Lib.hid hb1⟩
    case round =>
      obtain ⟨k, rfl, hk, hok, hb⟩ := hrel
      by_cases hlt : k < ps.length
      · obtain ⟨g, o, rfl, _, hc⟩ := (HP.out.below hb.out).some (by omega)
        have ek := hc k hlt
        have hlt' : (k : Int) < (ps.length : Int) := by omega
        have hk0 : (0 : Int) ≤ (k : Int) := by omega
        have HBN : Hid (∀ n, Below w.heap.size w (wr.drewN n)) := Lib.hid (fun n => Below.draws hb.out n)
        have HOK : Hid (okK l.length ps k = (decide (0 ≤ ps.getD k 0) && decide (ps.getD k 0 < (l.length : Int)) && (decide (k = 0) || decide (ps.getD (k - 1) 0 < ps.getD k 0)))) := Lib.hid rfl
        have HB2 := Lib.hid (HBAD.out k hlt)
        have HUP := Lib.hid (fun h => up_to (p := fun j => okK l.length ps j = true) hok.out h)
        cases k with
        | zero =>
          rw [Nat.add_zero] at ek
          clear hc hok
          generalize ps.getD 0 0 = p at ek HOK
          by_cases h1 : p < 0
          · have HF := Lib.hid (HB2.out (by rw [HOK.out, decide_eq_false (show ¬ 0 ≤ p by omega)]; rfl))
            clear HOK HB2 HUP
            have dA : decide (p < 0) = true := decide_eq_true h1
            go_wp2_with fail
            go_quiet (fail)
            go_wp2_with fail
            go_ret
            exact ⟨by rw [HF.out]; rfl, HBN.out _⟩
          · by_cases h2 : (l.length : Int) ≤ p
            · have HF := Lib.hid (HB2.out (by rw [HOK.out, decide_eq_false (show ¬ p < (l.length : Int) by omega)]; simp))
              clear HOK HB2 HUP
              have dA : decide (p < 0) = false := decide_eq_false h1
              have dB : decide ((l.length : Int) ≤ p) = true := decide_eq_true h2
              go_wp2_with fail
              go_quiet (fail)
              go_wp2_with fail
              go_ret
              exact ⟨by rw [HF.out]; rfl, HBN.out _⟩
            · have HN := Lib.hid (HUP.out (by rw [HOK.out, decide_eq_true (show 0 ≤ p by omega), decide_eq_true (show p < (l.length : Int) by omega)]; simp))
              clear HOK HB2 HUP
              have dA : decide (p < 0) = false := decide_eq_false h1
              have dB : decide ((l.length : Int) ≤ p) = false := decide_eq_false h2
              go_wp2_with fail
              go_quiet (fail)
              go_wp2_with fail
              go_roundw
              case rel => exact ⟨1, by go_num, by omega, HN, Lib.hid (HBN.out _)⟩
              case measure => simp [intOf]; omega
        | succ j =>
          have ej := hc j (by omega)
          have hj0 : (0 : Int) ≤ (j : Int) := by omega
          have hj1 : (j : Int) < (ps.length : Int) := by omega
          have hj2 : (0 : Int) < (j : Int) + 1 := by omega
          have hj3 : (0 : Int) ≤ (j : Int) + 1 := by omega
          have hj4 : (j : Int) + 1 < (ps.length : Int) := by omega
          rw [Nat.add_sub_cancel] at HOK
          clear hc hok
          generalize ps.getD (j + 1) 0 = p at ek HOK
          generalize ps.getD j 0 = q at ej HOK
          by_cases h1 : p < 0
          · have HF := Lib.hid (HB2.out (by rw [HOK.out, decide_eq_false (show ¬ 0 ≤ p by omega)]; rfl))
            clear HOK HB2 HUP
            have dA : decide (p < 0) = true := decide_eq_true h1
            go_wp2_with fail
            go_quiet (fail)
            go_wp2_with fail
            go_ret
            exact ⟨by rw [HF.out]; rfl, HBN.out _⟩
          · by_cases h2 : (l.length : Int) ≤ p
            · have HF := Lib.hid (HB2.out (by rw [HOK.out, decide_eq_false (show ¬ p < (l.length : Int) by omega)]; simp))
              clear HOK HB2 HUP
              have dA : decide (p < 0) = false := decide_eq_false h1
              have dB : decide ((l.length : Int) ≤ p) = true := decide_eq_true h2
              go_wp2_with fail
              go_quiet (fail)
              go_wp2_with fail
              go_ret
              exact ⟨by rw [HF.out]; rfl, HBN.out _⟩
            · by_cases h3 : p ≤ q
              · have HF := Lib.hid (HB2.out (by rw [HOK.out, decide_eq_false (show ¬ q < p by omega), decide_eq_false (show ¬ j + 1 = 0 by omega)]; simp))
                clear HOK HB2 HUP
                have dA : decide (p < 0) = false := decide_eq_false h1
                have dB : decide ((l.length : Int) ≤ p) = false := decide_eq_false h2
                have dC : decide ((0 : Int) < (j : Int) + 1) = true := decide_eq_true hj2
                have dD : decide (p ≤ q) = true := decide_eq_true h3
                go_wp2_with fail
                go_quiet (fail)
                go_wp2_with fail
                go_ret
                exact ⟨by rw [HF.out]; rfl, HBN.out _⟩
              · have HN := Lib.hid (HUP.out (by rw [HOK.out, decide_eq_true (show 0 ≤ p by omega), decide_eq_true (show p < (l.length : Int) by omega), decide_eq_true (show q < p by omega)]; simp))
                clear HOK HB2 HUP
                have dA : decide (p < 0) = false := decide_eq_false h1
                have dB : decide ((l.length : Int) ≤ p) = false := decide_eq_false h2
                have dC : decide ((0 : Int) < (j : Int) + 1) = true := decide_eq_true hj2
                have dD : decide (p ≤ q) = false := decide_eq_false h3
                go_wp2_with fail
                go_quiet (fail)
                go_wp2_with fail
                go_roundw
                case rel => exact ⟨j + 1 + 1, by go_num, by omega, HN, Lib.hid (HBN.out _)⟩
                case measure => simp [intOf]; omega
      · obtain rfl : k = ps.length := by omega
        have hlt' : ¬ (ps.length : Int) < (ps.length : Int) := by omega
        have hokp : okP l.length ps := hok.out
        have HI := Lib.hid hokp.in
        have HRP := Lib.hid (hr_pick HR.out hokp.in hokp.len)
        have HF := Lib.hid (HV.out hok.out)
        clear hok hokp HBAD HV
        go_wp2_with fail
        refine (some_at HI.out hpl HC.out hb.out HP.out hb.out rfl).mono ?_
        rintro e w6 ⟨x6, c6, rfl, hc6, b6⟩
        have HC6 := Lib.hid hc6
        have B6 := Lib.hid (Below.step hb.out b6 (Nat.le_refl _))
        clear hc6 b6
        go_wp2_with fail
        refine (rsolve_at HC6.out (Below.refl _ _) (pickL_len l ps)).mono ?_
        rintro e w7 ⟨z7, is7, n7, er7, x7, c7, rfl, hs7, _, b7⟩
        obtain ⟨h7, h8⟩ := hs7.told
        rw [if_pos HRP.out] at h8
        subst h8
        have B7 := Lib.hid (Below.step B6.out b7 (Nat.le_refl _))
        rw [← h7] at HF
        clear hs7 b7 h7
        cases is7 with
        | true =>
          go_wp2_with fail
          go_ret
          exact ⟨by rw [HF.out]; rfl, B7.out⟩
        | false =>
          go_wp2_with fail
          go_ret
          exact ⟨by rw [HF.out]; rfl, B7.out⟩
end Go.Proofs.Ytnfmcenedohdnaa
