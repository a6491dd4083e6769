/- The contracts of the program's demand of a clause in a model, and of the greatest of some numbers. Conditions: the clause is right for as many variables as the model has values, and these are from 0 to 2^40; there is at least one number. -/
import Derived.Test.YtglggigndhbpcaaZJmem
import Derived.Test.YtglggigndhbpcaaZHasks
import Derived.Test.YtglggigndhbpcaaZHr
namespace Go.Proofs.Ytglggigndhbpcaa
open Go.RowKit

set_option maxRecDepth 100000 in
set_option maxHeartbeats 4000000 in
theorem jdemand_any (m : List Int) (fr : List At) (tv to : Int) (a' am : Option Addr) (c' cm B : Nat) (w : World) (hm : natsB m = true) (hc : clB m.length (fr, (tv, to)) = true) (hin : AtsIn w (· < B) fr a' c') (him : IntsIn w (· < B) m am cm) (hB : B ≤ w.heap.size) :
    Calls Try.prog 70 #[.agg #[.slice a' fr.length c', .int .i64 tv, .int .i64 to], .slice am m.length cm] w fun e w' => e = .returned (.int .i64 (askC (fr, (tv, to)) m)) ∧ Below w.heap.size w w' := by
  have hlen := hin.len
  have hlm := him.len
  have HA := Lib.hid (askC_top hm hc)
  have HT := Lib.hid (lowA_top hm hc)
  obtain ⟨p1, p2, p3⟩ := clB_of hc
  have hto := atB_of p1
  have HP3 := Lib.hid p3
  have HF := Lib.hid (frB_of p2)
  have HM := Lib.hid hm
  have HI := Lib.hid hin
  have HIM := Lib.hid him
  generalize askC (fr, (tv, to)) m = V at HA ⊢
  simp only at hto
  have h1 : 0 ≤ to := hto.2.2.1
  have h2 : to ≤ 1000 := hto.2.2.2
  have HB0 := Lib.hid ((Below.refl w.heap.size w).alloc (Nat.le_refl _) (.cells #[.slice a' fr.length c', .int .i64 tv, .int .i64 to] 35))
  have X0 := Lib.hid (heap_new w (.cells #[.slice a' fr.length c', .int .i64 tv, .int .i64 to] 35))
  clear hm hc hin him p1 p2 p3 hto
  go_enter Try.func70, Try.ntmps70
  go_wp2_with fail
  go_loopw [5, 11] (fun sv iv wr => ∃ (k : Nat) (s : Int), sv = .int .i64 s ∧ iv = .int .i64 k ∧ k ≤ fr.length ∧ -1000 ≤ s ∧ Hid (s = lowA m 9223372036854775807 (fr.take k)) ∧ Below (w.heap.size + 1) (w.alloc (.cells #[.slice a' fr.length c', .int .i64 tv, .int .i64 to] 35)) wr) (fun _ iv _ => fr.length - (intOf iv).toNat)
  case atStart => exact ⟨0, _, rfl, rfl, Nat.zero_le _, by omega, Lib.hid rfl, Below.refl _ _⟩
  case round =>
    obtain ⟨k, s, rfl, rfl, hk, hs0, hs, hb⟩ := hrel
    by_cases hlt : k < fr.length
    · have HBw : Hid (Below w.heap.size w wr) := Lib.hid (HB0.out.trans (hb.mono (by omega)))
      obtain ⟨g, p, xv, xo, rfl, hgB, hgx, x0, x1⟩ := (HI.out.below (HBw.out.mono hB)).at hlt
      have hat := all_getD HP3.out at0 hlt
      rw [hgx] at hat
      obtain ⟨q1, q2, q3, q4⟩ := atB_of hat
      simp only at q1 q2 q3 q4
      obtain ⟨h, r, rfl, hhB, hcm⟩ := (HIM.out.below (HBw.out.mono hB)).some (by omega)
      have hy := hcm xv.toNat (by omega)
      have hhl : h < wr.heap.size := by have := HBw.out.size; omega
      have hyb := natsB_getD HM.out xv.toNat
      have HN := Lib.hid (lowA_take (m := m) (s := 9223372036854775807) hlt)
      have HVA : Hid (valA m (fr.getD k at0) = m.getD xv.toNat 0 - xo) := Lib.hid (by rw [hgx]; rfl)
      have HBA := Lib.hid (hb.alloc (o := .cells #[.int .i64 xv, .int .i64 xo] 27) (by have := hb.size; simp at this; omega))
      clear hgx hat hcm
      generalize m.getD xv.toNat 0 = y at hy hyb HVA
      have y0 := hyb.1
      have y1 := hyb.2
      have hy2 := heap_cell_old wr (.cells #[.int .i64 xv, .int .i64 xo] 27) hhl hy
      have hw1 : IntKind.i64.wrap (y - xo) = y - xo := IntWalk.i64_in _ (by omega)
      clear hyb
      by_cases hmn : y - xo < s
      · have HS : Hid (y - xo = lowA m 9223372036854775807 (fr.take (k + 1))) := Lib.hid (by rw [HN.out, ← hs.out, HVA.out]; omega)
        go_wp2_with fail
        go_quiet (fail)
        go_wp2_with fail
        go_roundw
        case rel => exact ⟨k + 1, y - xo, rfl, by go_num, by omega, by omega, HS, Below.draws HBA.out _⟩
        case measure => simp [intOf]; omega
      · have HS : Hid (s = lowA m 9223372036854775807 (fr.take (k + 1))) := Lib.hid (by rw [HN.out, ← hs.out, HVA.out]; omega)
        go_wp2_with fail
        go_quiet (fail)
        go_wp2_with fail
        go_roundw
        case rel => exact ⟨k + 1, s, rfl, by go_num, by omega, hs0, HS, Below.draws HBA.out _⟩
        case measure => simp [intOf]; omega
    · have hX := (hb.block w.heap.size (by omega)).trans X0.out
      have HS : Hid (s + to = V) := Lib.hid (by
        have e := hs.out
        rw [List.take_of_length_le (by omega)] at e
        rw [e]; exact HA.out)
      have hs1 : s ≤ 1099511627776 := by
        have e := hs.out
        rw [List.take_of_length_le (by omega)] at e
        rw [e]; exact HT.out
      have c2 := cell_at hX 2
      simp at c2
      have HBw : Hid (Below w.heap.size w wr) := Lib.hid (HB0.out.trans (hb.mono (by omega)))
      clear hX
      go_wp2_with fail
      go_ret
      exact ⟨by rw [← HS.out]; rfl, HBw.out⟩

set_option maxRecDepth 100000 in
set_option maxHeartbeats 4000000 in
theorem maxInts_any (l : List Int) (a : Option Addr) (cap B : Nat) (w : World) (hl1 : 1 ≤ l.length) (hin : IntsIn w (· < B) l a cap) :
    Calls Try.prog 63 #[.slice a l.length cap] w fun e w' => e = .returned (.int .i64 (maxL l)) ∧ w = w' := by
  have hlen := hin.len
  obtain ⟨b, o, rfl, hbB, hc⟩ := hin.some (by omega)
  have c0 := hc 0 (by omega)
  have HC := Lib.hid hc
  have H1 := Lib.hid (mxTo_one hl1)
  have HM : Hid (maxL l = mxTo l l.length) := Lib.hid rfl
  generalize maxL l = V at HM ⊢
  clear hc
  generalize l.getD 0 0 = x0 at c0 H1
  rw [Nat.add_zero] at c0
  go_enter Try.func63, Try.ntmps63
  go_wp2_with fail
  go_loop [3, 4] (fun mv iv => ∃ (k : Nat) (m : Int), mv = .int .i64 m ∧ iv = .int .i64 k ∧ 1 ≤ k ∧ k ≤ l.length ∧ Hid (m = mxTo l k)) (fun _ iv => l.length - (intOf iv).toNat)
  case atStart => exact ⟨1, x0, rfl, rfl, by omega, hl1, Lib.hid H1.out.symm⟩
  case round =>
    obtain ⟨k, m, rfl, rfl, hk1, hk, hm⟩ := hrel
    by_cases hlt : k < l.length
    · have ck := HC.out k hlt
      have HN := Lib.hid (mxTo_succ hlt)
      have hlt' : (k : Int) < (l.length : Int) := by omega
      generalize l.getD k 0 = x at ck HN
      by_cases hmx : m < x
      · have HS : Hid (x = mxTo l (k + 1)) := Lib.hid (by rw [HN.out, ← hm.out]; omega)
        go_wp2_with fail
        go_round
        case rel => exact ⟨k + 1, x, rfl, by go_num, by omega, by omega, HS⟩
        case measure => simp [intOf]; omega
      · have HS : Hid (m = mxTo l (k + 1)) := Lib.hid (by rw [HN.out, ← hm.out]; omega)
        go_wp2_with fail
        go_round
        case rel => exact ⟨k + 1, m, rfl, by go_num, by omega, by omega, HS⟩
        case measure => simp [intOf]; omega
    · obtain rfl : k = l.length := by omega
      have HE : Hid (m = V) := Lib.hid (by rw [hm.out, HM.out])
      go_wp2_with fail
      go_ret
      exact ⟨by rw [← HE.out]; rfl, rfl⟩
end Go.Proofs.Ytglggigndhbpcaa
/- The contract of the program's bound: the greatest value, and the limit above it. Conditions: the clauses are right for as many variables as there are values, and these are from 0 to 2^40. -/
namespace Go.Proofs.Ytglggigndhbpcaa
open Go.RowKit

theorem lim_bd {V : Nat} {l : List Cl} (h : hrB V l = true) : 0 ≤ ((V : Int) - 1) * mostD 0 l ∧ ((V : Int) - 1) * mostD 0 l ≤ 15000 := by
  obtain ⟨h1, h2, _, h4⟩ := hrB_of h
  obtain ⟨d0, d1⟩ := mostD_bd l 0 h4 (by omega) (by omega)
  have e1 : ((V : Int) - 1) * mostD 0 l ≤ 15 * mostD 0 l := Int.mul_le_mul_of_nonneg_right (by omega) d0
  have e0 : 0 ≤ ((V : Int) - 1) * mostD 0 l := Int.mul_nonneg (by omega) d0
  omega
/-- The bound that the rounds are held against. -/
def hiJ (m : List Int) (l : List Cl) : Int := maxL m + ((m.length : Int) - 1) * mostD 0 l

set_option maxRecDepth 100000 in
set_option maxHeartbeats 4000000 in
theorem jhighest_any (m : List Int) (l : List Cl) (a am : Option Addr) (cap cm B : Nat) (w : World) (hr : hrB m.length l = true) (hm : natsB m = true) (hin : ClsIn w (· < B) l a cap) (him : IntsIn w (· < B) m am cm) (hB : B ≤ w.heap.size) :
    Calls Try.prog 61 #[.slice a l.length cap, .slice am m.length cm] w fun e w' => e = .returned (.int .i64 (hiJ m l)) ∧ Below w.heap.size w w' := by
  have hlen := hin.len
  have hlm := him.len
  obtain ⟨v1, v2, _, v4⟩ := hrB_of hr
  have hV : (m.length : Int) ≤ 16 := v2
  have CM := hMost_any m.length l a cap B w hin hB
  rw [show mostV m.length l = mostD 0 l by simp [mostV, hr], show mostE m.length l = 0 by simp [mostE, hr]] at CM
  have CX := Lib.hid (fun W (hW : Below w.heap.size w W) => maxInts_any m am cm B W (by omega) (him.below (hW.mono hB)))
  obtain ⟨d0, d1⟩ := mostD_bd l 0 v4 (by omega) (by omega)
  have hx := maxL_bd (l := m) (X := 1099511627776) (by omega) (fun i => natsB_getD hm i)
  have hl := lim_bd hr
  have HH : Hid (hiJ m l = maxL m + ((m.length : Int) - 1) * mostD 0 l) := Lib.hid rfl
  generalize hiJ m l = H at HH ⊢
  generalize maxL m = X at CX hx HH
  generalize mostD 0 l = D at CM d0 d1 hl HH
  obtain ⟨Q, hQ⟩ : ∃ Q, Q = ((m.length : Int) - 1) * D := ⟨_, rfl⟩
  rw [← hQ] at hl HH
  obtain ⟨x0, x1⟩ := hx
  obtain ⟨q0, q1⟩ := hl
  have hw1 : IntKind.i64.wrap (((m.length : Int) - 1) * D) = Q := by rw [← hQ]; exact IntWalk.i64_in _ (by omega)
  have HE : Hid (X + Q = H) := Lib.hid HH.out.symm
  have CM2 := Lib.hid CM
  clear CM v4 hr hm hin him hQ HH
  go_enter Try.func61, Try.ntmps61
  go_wp2_with (first | (go_at_call 67; refine CM2.out.mono ?_; rintro e w1 ⟨rfl, hb1⟩) | (go_at_call 63; refine (CX.out _ hb1).mono ?_; rintro e w2 ⟨rfl, rfl⟩))
  go_ret
  exact ⟨by rw [← HE.out]; rfl, hb1⟩
end Go.Proofs.Ytglggigndhbpcaa
/- The contracts of the document's limit, and of its question whether a value is above it. Conditions: the clauses are right for so many variables; the values lie in memory. -/
namespace Go.Proofs.Ytglggigndhbpcaa
open Go.RowKit

set_option maxRecDepth 100000 in
set_option maxHeartbeats 4000000 in
theorem r9Limit_any (V : Nat) (l : List Cl) (a : Option Addr) (cap B : Nat) (w : World) (hr : hrB V l = true) (hin : ClsIn w (· < B) l a cap) (hB : B ≤ w.heap.size) :
    Calls Try.prog 54 #[.int .i64 V, .slice a l.length cap] w fun e w' => e = .returned (.int .i64 (((V : Int) - 1) * mostD 0 l)) ∧ Below w.heap.size w w' := by
  obtain ⟨v1, v2, _, v4⟩ := hrB_of hr
  have hlen := hin.len
  have hV : (V : Int) ≤ 16 := v2
  have hV1 : (1 : Int) ≤ V := v1
  have CM := r8Most_any V l a cap B w hin hB
  rw [show mostV V l = mostD 0 l by simp [mostV, hr], show mostE V l = 0 by simp [mostE, hr]] at CM
  obtain ⟨d0, d1⟩ := mostD_bd l 0 v4 (by omega) (by omega)
  have hl := lim_bd hr
  generalize mostD 0 l = D at CM d0 d1 hl ⊢
  obtain ⟨Q, hQ⟩ : ∃ Q, Q = ((V : Int) - 1) * D := ⟨_, rfl⟩
  rw [← hQ] at hl ⊢
  obtain ⟨q0, q1⟩ := hl
  have hw1 : IntKind.i64.wrap (((V : Int) - 1) * D) = Q := by rw [← hQ]; exact IntWalk.i64_in _ (by omega)
  have CM2 := Lib.hid CM
  clear CM v4 v1 v2 hr hin hQ
  go_enter Try.func54, Try.ntmps54
  go_wp2_with (go_at_call 65; refine CM2.out.mono ?_; rintro e w1 ⟨rfl, hb1⟩)
  go_ret
  exact ⟨rfl, hb1⟩

theorem gr_low {m : List Int} {most : Int} {k : Nat} (hk : k < m.length) (h : most < m.getD k 0) : grB most m = true :=
  List.any_eq_true.2 ⟨_, getD_mem 0 hk, decide_eq_true h⟩
theorem gr_end {m : List Int} {most : Int} (h : ∀ k, k < m.length → ¬ most < m.getD k 0) : grB most m = false := grB_no.2 fun i hi => by have := h i hi; omega
set_option maxRecDepth 100000 in
set_option maxHeartbeats 4000000 in
theorem r9great_any (m : List Int) (most : Int) (a : Option Addr) (cap B : Nat) (w : World) (hin : IntsIn w (· < B) m a cap) :
    Calls Try.prog 64 #[.slice a m.length cap, .int .i64 most] w fun e w' => e = .returned (.bool (grB most m)) ∧ w = w' := by
  have hlen := hin.len
  have HI := Lib.hid hin
  have HL := Lib.hid (fun k (hk : k < m.length) (h : most < m.getD k 0) => gr_low hk h)
  have HE := Lib.hid (fun (h : ∀ k, k < m.length → ¬ most < m.getD k 0) => gr_end h)
  generalize grB most m = G at HL HE ⊢
  clear hin
  go_enter Try.func64, Try.ntmps64
  go_wp2_with fail
  go_loop [5] (fun i => ∃ k : Nat, i = .int .i64 k ∧ k ≤ m.length ∧ Hid (∀ j, j < k → ¬ most < m.getD j 0)) (fun i => m.length - (intOf i).toNat)
  case atStart => exact ⟨0, rfl, by omega, Lib.hid (fun j h => absurd h (by omega))⟩
  case round =>
    obtain ⟨k, rfl, hk, hn⟩ := hrel
    by_cases hlt : k < m.length
    · obtain ⟨b, o, rfl, hbB, hc⟩ := HI.out.some (by omega)
      have hck := hc k hlt
      have HG := Lib.hid (HL.out k hlt)
      have HN := Lib.hid (fun (h : ¬ most < m.getD k 0) => up_to (p := fun j => ¬ most < m.getD j 0) hn.out h)
      clear hc
      generalize m.getD k 0 = x at hck HG HN
      by_cases h1 : most < x
      · have HT := Lib.hid (HG.out h1)
        go_wp2_with fail
        go_ret
        exact ⟨by rw [HT.out]; rfl, rfl⟩
      · have HT := Lib.hid (HN.out h1)
        go_wp2_with fail
        go_round
        case rel => exact ⟨k + 1, by go_num, by omega, HT⟩
        case measure => simp [intOf]; omega
    · have HT := Lib.hid (HE.out (fun j hj => by have := hn.out j (by omega); omega))
      go_wp2_with fail
      go_ret
      exact ⟨by rw [HT.out]; rfl, rfl⟩
end Go.Proofs.Ytglggigndhbpcaa
