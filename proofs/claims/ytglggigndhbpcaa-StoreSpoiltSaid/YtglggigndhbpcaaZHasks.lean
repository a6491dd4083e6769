/- The contract of the document's own demand of a clause in a model. Conditions: the clause is right for as many variables as the model has values, and these are from 0 to 2^40. -/
import Derived.Test.YtglggigndhbpcaaZHr
import Derived.Deep.QuietTactic
import Derived.BigQuiet
import Derived.RegionTactic
import Derived.ChangeAlike
namespace Go.Proofs.Ytglggigndhbpcaa
open Go.RowKit

theorem lowA_take {m : List Int} {s : Int} {l : List At} {k : Nat} (hk : k < l.length) : lowA m s (l.take (k + 1)) = min (lowA m s (l.take k)) (valA m (l.getD k at0)) := by rw [take_getD l at0 hk, lowA_snoc]

theorem lowA_top {m : List Int} {c : Cl} (h : natsB m = true) (hc : clB m.length c = true) : lowA m 9223372036854775807 c.1 ≤ 1099511627776 := by
  have e := askC_top h hc
  unfold askC at e
  obtain ⟨_, hf, ha⟩ := clB_of hc
  have hl := frB_of hf
  have h0 := all_getD ha at0 (i := 0) (by omega)
  have hb := valA_bd h h0
  have h1 := lowA_le m c.1 (valA m (c.1.getD 0 at0))
  omega

set_option maxRecDepth 100000 in
set_option maxHeartbeats 4000000 in
theorem r8Asks_any (m : List Int) (fr : List At) (tv to : Int) (a' am : Option Addr) (c' cm B : Nat) (w : World) (hm : natsB m = true) (hc : clB m.length (fr, (tv, to)) = true) (hin : AtsIn w (· < B) fr a' c') (him : IntsIn w (· < B) m am cm) (hB : B ≤ w.heap.size) :
    Calls Try.prog 38 #[.agg #[.slice a' fr.length c', .int .i64 tv, .int .i64 to], .slice am m.length cm] w fun e w' => e = .returned (.int .i64 (askC (fr, (tv, to)) m)) ∧ Below w.heap.size w w' := by
  have hlen := hin.len
  have hlm := him.len
  obtain ⟨p1, p2, p3⟩ := clB_of hc
  have hto := atB_of p1
  have HP3 := Lib.hid p3
  have HF := Lib.hid (frB_of p2)
  have HM := Lib.hid hm
  have HI := Lib.hid hin
  have HIM := Lib.hid him
  have HV : Hid (askC (fr, (tv, to)) m = lowA m (valA m (fr.getD 0 at0)) fr + to) := Lib.hid rfl
  generalize askC (fr, (tv, to)) m = V at HV ⊢
  simp only at hto
  have h1 : 0 ≤ to := hto.2.2.1
  have h2 : to ≤ 1000 := hto.2.2.2
  have HB0 := Lib.hid ((Below.refl w.heap.size w).alloc (Nat.le_refl _) (.cells #[.slice a' fr.length c', .int .i64 tv, .int .i64 to] 35))
  have X0 := Lib.hid (heap_new w (.cells #[.slice a' fr.length c', .int .i64 tv, .int .i64 to] 35))
  have hl0 : 0 < fr.length := HF.out.1
  obtain ⟨g, p, xv, xo, rfl, hgB, hgx, x0, x1⟩ := (HI.out.below (HB0.out.mono hB)).at hl0
  have hat := all_getD HP3.out at0 hl0
  rw [hgx] at hat
  obtain ⟨q1, q2, q3, q4⟩ := atB_of hat
  simp only at q1 q2 q3 q4
  obtain ⟨h, r, rfl, hhB, hcm⟩ := (HIM.out.below (HB0.out.mono hB)).some (by omega)
  have hy := hcm xv.toNat (by omega)
  have hyb := natsB_getD HM.out xv.toNat
  have HVA : Hid (valA m (fr.getD 0 at0) = m.getD xv.toNat 0 - xo) := Lib.hid (by rw [hgx]; rfl)
  clear hgx hat hcm hm hc hin him p1 p2 p3 hto
  generalize m.getD xv.toNat 0 = y at hy hyb HVA
  have y0 := hyb.1
  have y1 := hyb.2
  simp only [Nat.zero_mul, Nat.add_zero] at x0 x1
  have hw1 : IntKind.i64.wrap (y - xo) = y - xo := IntWalk.i64_in _ (by omega)
  clear hyb
  go_enter Try.func38, Try.ntmps38
  go_wp2_with fail
  go_quiet (fail)
  have HST : Hid (y - xo = valA m (fr.getD 0 at0)) := Lib.hid HVA.out.symm
  have hsb : -1000 ≤ y - xo := by omega
  have hst : y - xo ≤ 1099511627776 := by omega
  clear x0 x1 hy
  generalize y - xo = s0 at *
  go_wp2_with fail
  go_loopw [5, 6] (fun sv iv wr => ∃ (k : Nat) (s : Int), sv = .int .i64 s ∧ iv = .int .i64 k ∧ k ≤ fr.length ∧ -1000 ≤ s ∧ s ≤ 1099511627776 ∧ Hid (s = lowA m (valA m (fr.getD 0 at0)) (fr.take k)) ∧ Below (w.heap.size + 1) (w.alloc (.cells #[.slice (some ⟨g, p, none⟩) fr.length c', .int .i64 tv, .int .i64 to] 35)) wr) (fun _ iv _ => fr.length - (intOf iv).toNat)
  case atStart => exact ⟨0, s0, rfl, rfl, Nat.zero_le _, hsb, hst, Lib.hid HST.out, Below.draws (Below.refl _ _) _⟩
  case round =>
    obtain ⟨k, s, rfl, rfl, hk, hs0, hs1, hs, hb⟩ := hrel
    have hX := (hb.block w.heap.size (by omega)).trans X0.out
    have c0 := cell_at hX 0
    have c2 := cell_at hX 2
    simp at c0 c2
    have hXl := lt_of_block hX
    by_cases hlt : k < fr.length
    · have HBw : Hid (Below w.heap.size w wr) := Lib.hid (HB0.out.trans (hb.mono (by omega)))
      obtain ⟨g', p', xv', xo', hgp, hgB', hgx', x0', x1'⟩ := (HI.out.below (HBw.out.mono hB)).at hlt
      cases hgp
      have hat' := all_getD HP3.out at0 hlt
      rw [hgx'] at hat'
      obtain ⟨r1, r2, r3, r4⟩ := atB_of hat'
      simp only at r1 r2 r3 r4
      obtain ⟨h', r', hhr, hhB', hcm⟩ := (HIM.out.below (HBw.out.mono hB)).some (by omega)
      cases hhr
      have hy' := hcm xv'.toNat (by omega)
      have hyb := natsB_getD HM.out xv'.toNat
      have HN := Lib.hid (lowA_take (m := m) (s := valA m (fr.getD 0 at0)) hlt)
      have HVA' : Hid (valA m (fr.getD k at0) = m.getD xv'.toNat 0 - xo') := Lib.hid (by rw [hgx']; rfl)
      clear hgx' hat' hcm
      generalize m.getD xv'.toNat 0 = y' at hy' hyb HVA'
      have y0' := hyb.1
      have y1' := hyb.2
      have hw1' : IntKind.i64.wrap (y' - xo') = y' - xo' := IntWalk.i64_in _ (by omega)
      clear hyb
      by_cases hmn : y' - xo' < s
      · have HS : Hid (y' - xo' = lowA m (valA m (fr.getD 0 at0)) (fr.take (k + 1))) := Lib.hid (by rw [HN.out, ← hs.out, HVA'.out]; omega)
        go_wp2_with fail
        go_quiet (fail)
        go_wp2_with fail
        go_roundw
        case rel => exact ⟨k + 1, y' - xo', rfl, by go_num, by omega, by omega, by omega, HS, Below.draws hb _⟩
        case measure => simp [intOf]; omega
      · have HS : Hid (s = lowA m (valA m (fr.getD 0 at0)) (fr.take (k + 1))) := Lib.hid (by rw [HN.out, ← hs.out, HVA'.out]; omega)
        go_wp2_with fail
        go_quiet (fail)
        go_wp2_with fail
        go_roundw
        case rel => exact ⟨k + 1, s, rfl, by go_num, by omega, hs0, hs1, HS, Below.draws hb _⟩
        case measure => simp [intOf]; omega
    · have HS : Hid (s + to = V) := Lib.hid (by
        have e := hs.out
        rw [List.take_of_length_le (by omega)] at e
        rw [e]; exact HV.out.symm)
      have HBw : Hid (Below w.heap.size w wr) := Lib.hid (HB0.out.trans (hb.mono (by omega)))
      clear hX
      go_wp2_with fail
      go_ret
      exact ⟨by rw [← HS.out]; rfl, HBw.out⟩
end Go.Proofs.Ytglggigndhbpcaa
