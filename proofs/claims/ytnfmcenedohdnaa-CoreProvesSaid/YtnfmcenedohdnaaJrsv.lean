/- The contract of the document's own Solve. Condition: the clauses lie in memory; at most 1000 variables. -/
import Derived.Test.YtnfmcenedohdnaaJrr
import Derived.Test.YtnfmcenedohdnaaJsv
import Derived.Deep.RegionWith
namespace Go.Proofs.Ytnfmcenedohdnaa
open Go.RowKit

set_option maxRecDepth 100000 in
set_option maxHeartbeats 4000000 in
theorem r9Solve_any (V : Nat) (hV : V ≤ 1000) (l : List Cl) (a : Option Addr) (cap B : Nat) (w : World) (hin : ClsIn w (· < B) l a cap) (hB : B ≤ w.heap.size) :
    Calls Try.prog 12 #[.int .i64 V, .slice a l.length cap] w (SvPost V l w) := by
  have hlen := hin.len
  have CR := r8Right_any V l a cap B w hin hB
  cases hr : hrB V l with
  | false =>
    rw [hr] at CR
    have HR := Lib.hid hr
    have CR2 := Lib.hid CR
    clear CR hin hr
    go_enter Try.func12, Try.ntmps12
    go_wp2_with (go_at_call 22; refine CR2.out.mono ?_; rintro e w1 ⟨rfl, hb1⟩)
    refine bodyPost_ret (v := .tuple #[.slice none 0 0, .bool false, .int .i64 0, .int .i64 1]) (by simp [results, Try.f12, go_sem]) rfl ?_
    exact ⟨[], false, 0, 1, none, 0, rfl, .inr ⟨HR.out, rfl, rfl, rfl, rfl⟩, IOwn.nil _ _, hb1⟩
  | true =>
    rw [hr] at CR
    have HR := Lib.hid hr
    have CR2 := Lib.hid CR
    obtain ⟨v1, v2, _, v4⟩ := hrB_of hr
    have hV1 : 1 ≤ V := by omega
    have hlim := lim_bd hr
    have CM := Lib.hid (fun (W : World) (hW : Below w.heap.size w W) => r9Limit_any V l a cap B W hr (hin.below (hW.mono hB)) (Nat.le_trans hB hW.size))
    have CL := Lib.hid (fun (W : World) (g : Nat) (hW : Below w.heap.size w W) (hn : NumB W g (zerosJ V)) => by
      have := r9rounds_any (zerosJ V) l (((V : Int) - 1) * mostD 0 l) a (some ⟨g, 0, none⟩) cap V W.heap.size W (by rw [zerosJ_len]; exact hr) (fun i => by rw [zerosJ_at]; omega) (fun i _ => by rw [zerosJ_at]; omega) hlim.1 (by omega) ((hin.below (hW.mono hB)).mono (Nat.le_trans hB hW.size)) (hn.ints (cap := V) (by rw [zerosJ_len]; omega) (by omega)) (Nat.le_refl _)
      rw [zerosJ_len] at this
      exact this)
    have HMK : Hid (∀ W : World, ∃ W0, (Instr.makeSlice 23 (.int .i64 V) (.int .i64 V)).run Try.prog W = .ok (.slice (some ⟨W.heap.size, 0, none⟩) V V) W0 ∧ Hid (Below W.heap.size W W0) ∧ Hid (NumB W0 W.heap.size (zerosJ V))) := Lib.hid (fun W => ⟨_, make_nums V hV W, Lib.hid ((Below.refl _ _).alloc (Nat.le_refl _) _), Lib.hid (heap_new _ _)⟩)
    have HF : Hid (∀ (a' : List Int) (is : Bool) (n : Int) (x : Option Addr) (c : Nat) (W W3 : World), Below w.heap.size w W → TellJ l (zerosJ V) (((V : Int) - 1) * mostD 0 l) a' is n → IOwn W3 W.heap.size (.slice x a'.length c) a' → Below W.heap.size W W3 → SvPost V l w (.returned (.tuple #[.slice x a'.length c, .bool is, .int .i64 n, .int .i64 0])) W3) := Lib.hid (fun a' is n x c W W3 hW ht ho hb => ⟨a', is, n, 0, x, c, rfl, .inl ⟨HR.out, ht, rfl⟩, ho.low hW.size, Below.step hW hb (Nat.le_refl _)⟩)
    unfold RdPost at CL
    generalize ((V : Int) - 1) * mostD 0 l = Q at CM CL HF
    clear CR hin hr v4 hlim
    go_enter Try.func12, Try.ntmps12
    go_wp2_with (go_at_call 22; refine CR2.out.mono ?_; rintro e w1 ⟨rfl, hb1⟩)
    obtain ⟨W0, hmk, HB0, HN0⟩ := HMK.out w1.drew
    go_region_with (first | (go_at_call 24; refine (CM.out _ (by first | exact hb1.drew | exact Below.step hb1.drew HB0.out (Nat.le_refl _))).mono ?_; rintro e w2 ⟨rfl, hb2⟩; obtain ⟨W2, hmk2, HB2, HN2⟩ := HMK.out w2) | (go_at_call 23; refine (CL.out w2 w1.drew.heap.size (Below.step (Below.step hb1.drew HB0.out (Nat.le_refl _)) hb2 (Nat.le_refl _)) ((hb2.block _ (lt_of_block HN0.out)).trans HN0.out)).mono ?_; rintro e w3 ⟨a', is, n, x, c, rfl, ht, hown, hb3⟩; have HP := Lib.hid (HF.out a' is n x c _ w3 (Below.step (Below.step hb1.drew HB0.out (Nat.le_refl _)) hb2 (Nat.le_refl _)) ht hown hb3); clear ht hown hb3) | (go_at_call 23; refine (CL.out W2 w2.heap.size (Below.step (Below.step hb1.drew hb2 (Nat.le_refl _)) HB2.out (Nat.le_refl _)) HN2.out).mono ?_; rintro e w3 ⟨a', is, n, x, c, rfl, ht, hown, hb3⟩; have HP := Lib.hid (HF.out a' is n x c _ w3 (Below.step (Below.step hb1.drew hb2 (Nat.le_refl _)) HB2.out (Nat.le_refl _)) ht hown hb3); clear ht hown hb3))
    all_goals
      go_wp2_with fail
      refine bodyPost_ret (v := .tuple #[.slice x a'.length c, .bool is, .int .i64 n, .int .i64 0]) (by simp [results, Try.f12, go_sem]) rfl HP.out

set_option maxRecDepth 100000 in
set_option maxHeartbeats 4000000 in
theorem r9Solve_int (vars : Int) (l : List Cl) (a : Option Addr) (cap B : Nat) (w : World) (hin : ClsIn w (· < B) l a cap) (hB : B ≤ w.heap.size) :
    Calls Try.prog 12 #[.int .i64 vars, .slice a l.length cap] w (SiPost vars l w) := by
  cases hr : hrB vars l with
  | true =>
    obtain ⟨v1, v2, _, _⟩ := hrB_of hr
    obtain ⟨V, rfl⟩ : ∃ V : Nat, vars = (V : Int) := ⟨vars.toNat, by omega⟩
    exact (r9Solve_any V (by omega) l a cap B w hin hB).mono fun e w' h => h.int
  | false =>
    have hlen := hin.len
    have CR := r8Right_any vars l a cap B w hin hB
    rw [hr] at CR
    have HR := Lib.hid hr
    have CR2 := Lib.hid CR
    clear CR hin hr
    go_enter Try.func12, Try.ntmps12
    go_wp2_with (go_at_call 22; refine CR2.out.mono ?_; rintro e w1 ⟨rfl, hb1⟩)
    refine bodyPost_ret (v := .tuple #[.slice none 0 0, .bool false, .int .i64 0, .int .i64 1]) (by simp [results, Try.f12, go_sem]) rfl ?_
    exact ⟨[], false, 0, 1, none, 0, rfl, .inr ⟨HR.out, rfl, rfl, rfl, rfl⟩, IOwn.nil _ _, hb1⟩
end Go.Proofs.Ytnfmcenedohdnaa
