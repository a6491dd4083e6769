/- The contracts of the document's limit, and of its question whether a value is above it. Conditions: the clauses are right for so many variables; the values lie in memory. -/
import Derived.Test.YtnfmcenedohdnaaJdem
import Derived.Test.YtnfmcenedohdnaaHrmost
import Derived.Test.YtnfmcenedohdnaaJhigh
namespace Go.Proofs.Ytnfmcenedohdnaa
open Go.RowKit

set_option maxRecDepth 100000 in
set_option maxHeartbeats 4000000 in
theorem r9Limit_any (V : Nat) (l : List Cl) (a : Option Addr) (cap B : Nat) (w : World) (hr : hrB V l = true) (hin : ClsIn w (· < B) l a cap) (hB : B ≤ w.heap.size) :
    Calls Try.prog 24 #[.int .i64 V, .slice a l.length cap] w fun e w' => e = .returned (.int .i64 (((V : Int) - 1) * mostD 0 l)) ∧ Below w.heap.size w w' := by
  obtain ⟨v1, v2, _, v4⟩ := hrB_of hr
  have hlen := hin.len
  have hV : (V : Int) ≤ 16 := v2
  have hV1 : (1 : Int) ≤ V := v1
  have CM := r8Most_any V l a cap B w hin hB
  rw [show mostV V l = mostD 0 l by simp [mostV, hr], show mostE V l = 0 by simp [mostE, hr]] at CM
  obtain ⟨d0, d1⟩ := mostD_bd l 0 v4 (by omega) (by omega)
  have hl := lim_bd hr
  generalize mostD 0 l = D at CM d0 d1 hl ⊢
  obtain ⟨Q, hQ⟩ : ∃ Q, Q = ((V : Int) - 1) * D := ⟨_, rfl⟩
  rw [← hQ] at hl ⊢
  obtain ⟨q0, q1⟩ := hl
  have hw1 : IntKind.i64.wrap (((V : Int) - 1) * D) = Q := by rw [← hQ]; exact IntWalk.i64_in _ (by omega)
  have CM2 := Lib.hid CM
  clear CM v4 v1 v2 hr hin hQ
  go_enter Try.func24, Try.ntmps24
  go_wp2_with (go_at_call 34; refine CM2.out.mono ?_; rintro e w1 ⟨rfl, hb1⟩)
  go_ret
  exact ⟨rfl, hb1⟩

theorem gr_low {m : List Int} {most : Int} {k : Nat} (hk : k < m.length) (h : most < m.getD k 0) : grB most m = true :=
  List.any_eq_true.2 ⟨_, getD_mem 0 hk, decide_eq_true h⟩
theorem gr_end {m : List Int} {most : Int} (h : ∀ k, k < m.length → ¬ most < m.getD k 0) : grB most m = false := grB_no.2 fun i hi => by have := h i hi; omega
set_option maxRecDepth 100000 in
set_option maxHeartbeats 4000000 in
theorem r9great_any (m : List Int) (most : Int) (a : Option Addr) (cap B : Nat) (w : World) (hin : IntsIn w (· < B) m a cap) :
    Calls Try.prog 33 #[.slice a m.length cap, .int .i64 most] w fun e w' => e = .returned (.bool (grB most m)) ∧ w = w' := by
  have hlen := hin.len
  have HI := Lib.hid hin
  have HL := Lib.hid (fun k (hk : k < m.length) (h : most < m.getD k 0) => gr_low hk h)
  have HE := Lib.hid (fun (h : ∀ k, k < m.length → ¬ most < m.getD k 0) => gr_end h)
  generalize grB most m = G at HL HE ⊢
  clear hin
  go_enter Try.func33, Try.ntmps33
  go_wp2_with fail
  go_loop [5] (fun i => ∃ k : Nat, i = .int .i64 k ∧ k ≤ m.length ∧ Hid (∀ j, j < k → ¬ most < m.getD j 0)) (fun i => m.length - (intOf i).toNat)
  case atStart => exact ⟨0, rfl, by omega, Lib.hid (fun j h => absurd h (by omega))⟩
  case round =>
    obtain ⟨k, rfl, hk, hn⟩ := hrel
    by_cases hlt : k < m.length
    · obtain ⟨b, o, rfl, hbB, hc⟩ := HI.out.some (by omega)
      have hck := hc k hlt
      have HG := Lib.hid (HL.out k hlt)
      have HN := Lib.hid (fun (h : ¬ most < m.getD k 0) => up_to (p := fun j => ¬ most < m.getD j 0) hn.out h)
      clear hc
      generalize m.getD k 0 = x at hck HG HN
      by_cases h1 : most < x
      · have HT := Lib.hid (HG.out h1)
        go_wp2_with fail
        go_ret
        exact ⟨by rw [HT.out]; rfl, rfl⟩
      · have HT := Lib.hid (HN.out h1)
        go_wp2_with fail
        go_round
        case rel => exact ⟨k + 1, by go_num, by omega, HT⟩
        case measure => simp [intOf]; omega
    · have HT := Lib.hid (HE.out (fun j hj => by have := hn.out j (by omega); omega))
      go_wp2_with fail
      go_ret
      exact ⟨by rw [HT.out]; rfl, rfl⟩
end Go.Proofs.Ytnfmcenedohdnaa
