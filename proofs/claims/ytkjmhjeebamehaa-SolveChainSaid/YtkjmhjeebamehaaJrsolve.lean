/- The contracts of the document's own Solve and From. Condition: the clauses and the values lie in memory; at most 1000 variables. -/
import Derived.Test.YtkjmhjeebamehaaJrr
import Derived.Test.YtkjmhjeebamehaaJsolve
import Derived.Test.YtkjmhjeebamehaaHrbroken
import Derived.Deep.RegionWith
namespace Go.Proofs.Ytkjmhjeebamehaa
open Go.RowKit

set_option maxRecDepth 100000 in
set_option maxHeartbeats 4000000 in
theorem r9Solve_any (V : Nat) (hV : V ≤ 1000) (l : List Cl) (a : Option Addr) (cap B : Nat) (w : World) (hin : ClsIn w (· < B) l a cap) (hB : B ≤ w.heap.size) :
    Calls Try.prog 18 #[.int .i64 V, .slice a l.length cap] w (SvPost V l w) := by
  have hlen := hin.len
  have CR := r8Right_any V l a cap B w hin hB
  cases hr : hrB V l with
  | false =>
    rw [hr] at CR
    have HR := Lib.hid hr
    have CR2 := Lib.hid CR
    clear CR hin hr
    go_enter Try.func18, Try.ntmps18
    go_wp2_with (go_at_call 22; refine CR2.out.mono ?_; rintro e w1 ⟨rfl, hb1⟩)
    refine bodyPost_ret (v := .tuple #[.slice none 0 0, .bool false, .int .i64 0, .int .i64 1]) (by simp [results, Try.f18, go_sem]) rfl ?_
    exact ⟨[], false, 0, 1, none, 0, rfl, .inr ⟨HR.out, rfl, rfl, rfl, rfl⟩, IOwn.nil _ _, hb1⟩
  | true =>
    rw [hr] at CR
    have HR := Lib.hid hr
    have CR2 := Lib.hid CR
    obtain ⟨v1, v2, _, v4⟩ := hrB_of hr
    have hV1 : 1 ≤ V := by omega
    have hlim := lim_bd hr
    have CM := Lib.hid (fun (W : World) (hW : Below w.heap.size w W) => r9Limit_any V l a cap B W hr (hin.below (hW.mono hB)) (Nat.le_trans hB hW.size))
    have CL := Lib.hid (fun (W : World) (g : Nat) (hW : Below w.heap.size w W) (hn : NumB W g (zerosJ V)) => by
      have := r9rounds_any (zerosJ V) l (((V : Int) - 1) * mostD 0 l) a (some ⟨g, 0, none⟩) cap V W.heap.size W (by rw [zerosJ_len]; exact hr) (fun i => by rw [zerosJ_at]; omega) (fun i _ => by rw [zerosJ_at]; omega) hlim.1 (by omega) ((hin.below (hW.mono hB)).mono (Nat.le_trans hB hW.size)) (hn.ints (cap := V) (by rw [zerosJ_len]; omega) (by omega)) (Nat.le_refl _)
      rw [zerosJ_len] at this
      exact this)
    have HMK : Hid (∀ W : World, ∃ W0, (Instr.makeSlice 28 (.int .i64 V) (.int .i64 V)).run Try.prog W = .ok (.slice (some ⟨W.heap.size, 0, none⟩) V V) W0 ∧ Hid (Below W.heap.size W W0) ∧ Hid (NumB W0 W.heap.size (zerosJ V))) := Lib.hid (fun W => ⟨_, make_nums V hV W, Lib.hid ((Below.refl _ _).alloc (Nat.le_refl _) _), Lib.hid (heap_new _ _)⟩)
    have HF : Hid (∀ (a' : List Int) (is : Bool) (n : Int) (x : Option Addr) (c : Nat) (W W3 : World), Below w.heap.size w W → TellJ l (zerosJ V) (((V : Int) - 1) * mostD 0 l) a' is n → IOwn W3 W.heap.size (.slice x a'.length c) a' → Below W.heap.size W W3 → SvPost V l w (.returned (.tuple #[.slice x a'.length c, .bool is, .int .i64 n, .int .i64 0])) W3) := Lib.hid (fun a' is n x c W W3 hW ht ho hb => ⟨a', is, n, 0, x, c, rfl, .inl ⟨HR.out, ht, rfl⟩, ho.low hW.size, Below.step hW hb (Nat.le_refl _)⟩)
    unfold RdPost at CL
    generalize ((V : Int) - 1) * mostD 0 l = Q at CM CL HF
    clear CR hin hr v4 hlim
    go_enter Try.func18, Try.ntmps18
    go_wp2_with (go_at_call 22; refine CR2.out.mono ?_; rintro e w1 ⟨rfl, hb1⟩)
    obtain ⟨W0, hmk, HB0, HN0⟩ := HMK.out w1.drew
    go_region_with (first | (go_at_call 28; refine (CM.out _ (by first | exact hb1.drew | exact Below.step hb1.drew HB0.out (Nat.le_refl _))).mono ?_; rintro e w2 ⟨rfl, hb2⟩; obtain ⟨W2, hmk2, HB2, HN2⟩ := HMK.out w2) | (go_at_call 27; refine (CL.out w2 w1.drew.heap.size (Below.step (Below.step hb1.drew HB0.out (Nat.le_refl _)) hb2 (Nat.le_refl _)) ((hb2.block _ (lt_of_block HN0.out)).trans HN0.out)).mono ?_; rintro e w3 ⟨a', is, n, x, c, rfl, ht, hown, hb3⟩; have HP := Lib.hid (HF.out a' is n x c _ w3 (Below.step (Below.step hb1.drew HB0.out (Nat.le_refl _)) hb2 (Nat.le_refl _)) ht hown hb3); clear ht hown hb3) | (go_at_call 27; refine (CL.out W2 w2.heap.size (Below.step (Below.step hb1.drew hb2 (Nat.le_refl _)) HB2.out (Nat.le_refl _)) HN2.out).mono ?_; rintro e w3 ⟨a', is, n, x, c, rfl, ht, hown, hb3⟩; have HP := Lib.hid (HF.out a' is n x c _ w3 (Below.step (Below.step hb1.drew hb2 (Nat.le_refl _)) HB2.out (Nat.le_refl _)) ht hown hb3); clear ht hown hb3))
    all_goals
      go_wp2_with fail
      refine bodyPost_ret (v := .tuple #[.slice x a'.length c, .bool is, .int .i64 n, .int .i64 0]) (by simp [results, Try.f18, go_sem]) rfl HP.out
/-- The greatest of the first k, from nought on. -/
theorem mx0_succ {m : List Int} {k : Nat} (hk : k < m.length) : (m.take (k + 1)).foldl max 0 = max ((m.take k).foldl max 0) (m.getD k 0) := by
  rw [take_getD m 0 hk]; simp

set_option maxRecDepth 100000 in
set_option maxHeartbeats 8000000 in
theorem r9From_any (m : List Int) (l : List Cl) (a am : Option Addr) (cap cm B : Nat) (w : World) (hin : ClsIn w (· < B) l a cap) (him : IntsIn w (· < B) m am cm) (hB : B ≤ w.heap.size) :
    Calls Try.prog 19 #[.slice a l.length cap, .slice am m.length cm] w (FmPost l m w) := by
  have hlen := hin.len
  have hlm := him.len
  have CB := r8Broken_any m l a am cap cm B w hin him hB
  cases hk : brkOk m l with
  | false =>
    have hE : bkE m l = 1 := by simp [bkE, hk]
    have HK := Lib.hid hk
    rw [hE] at CB
    have CB2 := Lib.hid CB
    clear CB hin him hk hE
    go_enter Try.func19, Try.ntmps19
    go_wp2_with (go_at_call 14; refine CB2.out.mono ?_; rintro e w1 ⟨x1, c1, rfl, ho1, hb1⟩)
    refine bodyPost_ret (v := .tuple #[.slice none 0 0, .bool false, .int .i64 1]) (by simp [results, Try.f19, go_sem]) rfl ?_
    exact ⟨[], false, 1, none, 0, rfl, .inr (.inr ⟨HK.out, rfl, rfl, rfl⟩), IOwn.nil _ _, hb1⟩
  | true =>
    have hE : bkE m l = 0 := by simp [bkE, hk]
    have HK := Lib.hid hk
    rw [hE] at CB
    have CB2 := Lib.hid CB
    have hk2 := hk
    simp only [brkOk, Bool.and_eq_true] at hk2
    obtain ⟨hr, hn⟩ := hk2
    obtain ⟨v1, v2, _, _⟩ := hrB_of hr
    have hV1 : 1 ≤ m.length := by omega
    have hlim := lim_bd hr
    have HIM := Lib.hid him
    have HN := Lib.hid hn
    have HMX : Hid (m.foldl max 0 = maxL m) := Lib.hid (max_zero hV1 (fun i => (natsB_getD hn i).1))
    have HTK := Lib.hid (fun k (hk : k < m.length) => mx0_succ hk)
    have CM := Lib.hid (fun (W : World) (hW : Below w.heap.size w W) => r9Limit_any m.length l a cap B W hr (hin.below (hW.mono hB)) (Nat.le_trans hB hW.size))
    have CL := Lib.hid (fun (hmx : maxL m ≤ 1000) (W : World) (hW : Below w.heap.size w W) => by
      have h0 : 0 ≤ maxL m := (maxL_bd (X := 1099511627776) hV1 (fun i => natsB_getD hn i)).1
      exact r9rounds_any m l (hiJ m l) a am cap cm B W hr (fun i => (natsB_getD hn i).1) (fun i hi => by have := maxL_ge hi; unfold hiJ; omega) (by unfold hiJ; omega) (by unfold hiJ; omega) (hin.below (hW.mono hB)) (him.below (hW.mono hB)) (Nat.le_trans hB hW.size))
    have HH : Hid (maxL m + ((m.length : Int) - 1) * mostD 0 l = hiJ m l) := Lib.hid rfl
    have hq1 := hlim.1
    have hq2 := hlim.2
    generalize ((m.length : Int) - 1) * mostD 0 l = Q at CM HH hq1 hq2
    clear CB hin him hk hE hr hn v1 v2 hlim
    go_enter Try.func19, Try.ntmps19
    go_wp2_with (go_at_call 14; refine CB2.out.mono ?_; rintro e w1 ⟨x1, c1, rfl, ho1, hb1⟩; clear ho1)
    go_loopw [9, 10] (fun nv iv wr => ∃ (k : Nat) (n : Int), nv = .int .i64 n ∧ iv = .int .i64 k ∧ k ≤ m.length ∧ Hid (n = (m.take k).foldl max 0) ∧ Hid (wr = w1)) (fun _ iv _ => m.length - (intOf iv).toNat)
    case atStart => exact ⟨0, 0, rfl, rfl, Nat.zero_le _, Lib.hid rfl, Lib.hid rfl⟩
    case round =>
      obtain ⟨k, n, rfl, rfl, hk, hs, hw⟩ := hrel
      obtain rfl := hw.out
      by_cases hlt : k < m.length
      · obtain ⟨b, o, rfl, hbB, hc⟩ := (HIM.out.below (hb1.mono hB)).some (by omega)
        have ck := hc k hlt
        have HT := Lib.hid (HTK.out k hlt)
        rw [← hs.out] at HT
        have hlt' : (k : Int) < (m.length : Int) := by omega
        clear hc
        generalize m.getD k 0 = y at ck HT
        by_cases hmx : n < y
        · have HS : Hid (y = (m.take (k + 1)).foldl max 0) := Lib.hid (by rw [HT.out]; omega)
          go_wp2_with fail
          go_roundw
          case rel => exact ⟨k + 1, y, rfl, by go_num, by omega, HS, Lib.hid trivial⟩
          case measure => simp [intOf]; omega
        · have HS : Hid (n = (m.take (k + 1)).foldl max 0) := Lib.hid (by rw [HT.out]; omega)
          go_wp2_with fail
          go_roundw
          case rel => exact ⟨k + 1, n, rfl, by go_num, by omega, HS, Lib.hid trivial⟩
          case measure => simp [intOf]; omega
      · have HE : Hid (n = maxL m) := Lib.hid (by rw [hs.out, List.take_of_length_le (by omega), HMX.out])
        rw [← HE.out] at HH CL
        have HX0 : Hid (n = maxL m) := HE
        by_cases hmx : n ≤ 1000
        · have hn0 : 0 ≤ n := by rw [HE.out]; exact (maxL_bd (X := 1099511627776) hV1 (fun i => natsB_getD HN.out i)).1
          have HX : Hid (maxL m ≤ 1000) := Lib.hid (by rw [← HE.out]; exact hmx)
          have hmx2 : ¬ 1000 < n := by omega
          have CL2 := Lib.hid (CL.out hmx)
          have hsum : IntKind.i64.wrap (n + Q) = n + Q := IntWalk.i64_in _ (by omega)
          have HF : Hid (∀ (a' : List Int) (is : Bool) (z : Int) (x : Option Addr) (c : Nat) (W W3 : World), Below w.heap.size w W → TellJ l m (hiJ m l) a' is z → IOwn W3 W.heap.size (.slice x a'.length c) a' → Below W.heap.size W W3 → FmPost l m w (.returned (.tuple #[.slice x a'.length c, .bool is, .int .i64 0])) W3) := Lib.hid (fun a' is z x c W W3 hW ht ho hb => ⟨a', is, 0, x, c, rfl, .inl ⟨HK.out, HX.out, ⟨z, ht⟩, rfl⟩, ho.low hW.size, Below.step hW hb (Nat.le_refl _)⟩)
          rw [← HH.out] at CL2 HF
          unfold RdPost at CL2
          clear hs hmx
          go_wp2_with (first | (go_at_call 28; refine (CM.out _ hb1).mono ?_; rintro e w2 ⟨rfl, hb2⟩) | (go_at_call 27; refine (CL2.out w2 (Below.step hb1 hb2 (Nat.le_refl _))).mono ?_; rintro e w3 ⟨a', is, z, x, c, rfl, ht, hown, hb3⟩; have HP := Lib.hid (HF.out a' is z x c _ w3 (Below.step hb1 hb2 (Nat.le_refl _)) ht hown hb3); clear ht hown hb3))
          refine bodyPost_ret (v := .tuple #[.slice x a'.length c, .bool is, .int .i64 0]) (by simp [results, Try.f19, go_sem]) rfl HP.out
        · have HX : Hid (¬ maxL m ≤ 1000) := Lib.hid (by rw [← HE.out]; exact hmx)
          have hmx2 : 1000 < n := by omega
          clear hs hmx
          go_wp2_with fail
          refine bodyPost_ret (v := .tuple #[.slice none 0 0, .bool false, .int .i64 2]) (by simp [results, Try.f19, go_sem]) rfl ?_
          exact ⟨[], false, 2, none, 0, rfl, .inr (.inl ⟨HK.out, Int.not_le.2 HX.out, rfl, rfl, rfl⟩), IOwn.nil _ _, hb1⟩
end Go.Proofs.Ytkjmhjeebamehaa
