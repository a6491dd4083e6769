/- The contract of the program's bound: the greatest value, and the limit above it. Conditions: the clauses are right for as many variables as there are values, and these are from 0 to 2^40. -/
import Derived.Test.YtnfmcenedohdnaaJdem
import Derived.Test.YtnfmcenedohdnaaHmost
namespace Go.Proofs.Ytnfmcenedohdnaa
open Go.RowKit

theorem lim_bd {V : Nat} {l : List Cl} (h : hrB V l = true) : 0 ≤ ((V : Int) - 1) * mostD 0 l ∧ ((V : Int) - 1) * mostD 0 l ≤ 15000 := by
  obtain ⟨h1, h2, _, h4⟩ := hrB_of h
  obtain ⟨d0, d1⟩ := mostD_bd l 0 h4 (by omega) (by omega)
  have e1 : ((V : Int) - 1) * mostD 0 l ≤ 15 * mostD 0 l := Int.mul_le_mul_of_nonneg_right (by omega) d0
  have e0 : 0 ≤ ((V : Int) - 1) * mostD 0 l := Int.mul_nonneg (by omega) d0
  omega
/-- The bound that the rounds are held against. -/
def hiJ (m : List Int) (l : List Cl) : Int := maxL m + ((m.length : Int) - 1) * mostD 0 l

set_option maxRecDepth 100000 in
set_option maxHeartbeats 4000000 in
theorem jhighest_any (m : List Int) (l : List Cl) (a am : Option Addr) (cap cm B : Nat) (w : World) (hr : hrB m.length l = true) (hm : natsB m = true) (hin : ClsIn w (· < B) l a cap) (him : IntsIn w (· < B) m am cm) (hB : B ≤ w.heap.size) :
    Calls Try.prog 37 #[.slice a l.length cap, .slice am m.length cm] w fun e w' => e = .returned (.int .i64 (hiJ m l)) ∧ Below w.heap.size w w' := by
  have hlen := hin.len
  have hlm := him.len
  obtain ⟨v1, v2, _, v4⟩ := hrB_of hr
  have hV : (m.length : Int) ≤ 16 := v2
  have CM := hMost_any m.length l a cap B w hin hB
  rw [show mostV m.length l = mostD 0 l by simp [mostV, hr], show mostE m.length l = 0 by simp [mostE, hr]] at CM
  have CX := Lib.hid (fun W (hW : Below w.heap.size w W) => maxInts_any m am cm B W (by omega) (him.below (hW.mono hB)))
  obtain ⟨d0, d1⟩ := mostD_bd l 0 v4 (by omega) (by omega)
  have hx := maxL_bd (l := m) (X := 1099511627776) (by omega) (fun i => natsB_getD hm i)
  have hl := lim_bd hr
  have HH : Hid (hiJ m l = maxL m + ((m.length : Int) - 1) * mostD 0 l) := Lib.hid rfl
  generalize hiJ m l = H at HH ⊢
  generalize maxL m = X at CX hx HH
  generalize mostD 0 l = D at CM d0 d1 hl HH
  obtain ⟨Q, hQ⟩ : ∃ Q, Q = ((m.length : Int) - 1) * D := ⟨_, rfl⟩
  rw [← hQ] at hl HH
  obtain ⟨x0, x1⟩ := hx
  obtain ⟨q0, q1⟩ := hl
  have hw1 : IntKind.i64.wrap (((m.length : Int) - 1) * D) = Q := by rw [← hQ]; exact IntWalk.i64_in _ (by omega)
  have HE : Hid (X + Q = H) := Lib.hid HH.out.symm
  have CM2 := Lib.hid CM
  clear CM v4 hr hm hin him hQ HH
  go_enter Try.func37, Try.ntmps37
  go_wp2_with (first | (go_at_call 41; refine CM2.out.mono ?_; rintro e w1 ⟨rfl, hb1⟩) | (go_at_call 39; refine (CX.out _ hb1).mono ?_; rintro e w2 ⟨rfl, rfl⟩))
  go_ret
  exact ⟨by rw [← HE.out]; rfl, hb1⟩
end Go.Proofs.Ytnfmcenedohdnaa
