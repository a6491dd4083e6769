/- The contract of the document's own Solve. Condition: the clauses lie in memory; at most 1000 variables. -/
import Derived.Test.YtglggigndhbpcaaZJrr
import Derived.Test.YtglggigndhbpcaaZJk
import Derived.Deep.RegionWith
import Derived.Test.YtglggigndhbpcaaZHs
import Derived.Test.YtglggigndhbpcaaZKsome
namespace Go.Proofs.Ytglggigndhbpcaa
open Go.RowKit

set_option maxRecDepth 100000 in
set_option maxHeartbeats 4000000 in
theorem r9Solve_any (V : Nat) (hV : V ≤ 1000) (l : List Cl) (a : Option Addr) (cap B : Nat) (w : World) (hin : ClsIn w (· < B) l a cap) (hB : B ≤ w.heap.size) :
    Calls Try.prog 41 #[.int .i64 V, .slice a l.length cap] w (SvPost V l w) := by
  have hlen := hin.len
  have CR := r8Right_any V l a cap B w hin hB
  cases hr : hrB V l with
  | false =>
    rw [hr] at CR
    have HR := Lib.hid hr
    have CR2 := Lib.hid CR
    clear CR hin hr
    go_enter Try.func41, Try.ntmps41
    go_wp2_with (go_at_call 36; refine CR2.out.mono ?_; rintro e w1 ⟨rfl, hb1⟩)
    refine bodyPost_ret (v := .tuple #[.slice none 0 0, .bool false, .int .i64 0, .int .i64 1]) (by simp [results, Try.f41, go_sem]) rfl ?_
    exact ⟨[], false, 0, 1, none, 0, rfl, .inr ⟨HR.out, rfl, rfl, rfl, rfl⟩, IOwn.nil _ _, hb1⟩
  | true =>
    rw [hr] at CR
    have HR := Lib.hid hr
    have CR2 := Lib.hid CR
    obtain ⟨v1, v2, _, v4⟩ := hrB_of hr
    have hV1 : 1 ≤ V := by omega
    have hlim := lim_bd hr
    have CM := Lib.hid (fun (W : World) (hW : Below w.heap.size w W) => r9Limit_any V l a cap B W hr (hin.below (hW.mono hB)) (Nat.le_trans hB hW.size))
    have CL := Lib.hid (fun (W : World) (g : Nat) (hW : Below w.heap.size w W) (hn : NumB W g (zerosJ V)) => by
      have := r9rounds_any (zerosJ V) l (((V : Int) - 1) * mostD 0 l) a (some ⟨g, 0, none⟩) cap V W.heap.size W (by rw [zerosJ_len]; exact hr) (fun i => by rw [zerosJ_at]; omega) (fun i _ => by rw [zerosJ_at]; omega) hlim.1 (by omega) ((hin.below (hW.mono hB)).mono (Nat.le_trans hB hW.size)) (hn.ints (cap := V) (by rw [zerosJ_len]; omega) (by omega)) (Nat.le_refl _)
      rw [zerosJ_len] at this
      exact this)
    have HMK : Hid (∀ W : World, ∃ W0, (Instr.makeSlice 23 (.int .i64 V) (.int .i64 V)).run Try.prog W = .ok (.slice (some ⟨W.heap.size, 0, none⟩) V V) W0 ∧ Hid (Below W.heap.size W W0) ∧ Hid (NumB W0 W.heap.size (zerosJ V))) := Lib.hid (fun W => ⟨_, make_nums V hV W, Lib.hid ((Below.refl _ _).alloc (Nat.le_refl _) _), Lib.hid (heap_new _ _)⟩)
    have HF : Hid (∀ (a' : List Int) (is : Bool) (n : Int) (x : Option Addr) (c : Nat) (W W3 : World), Below w.heap.size w W → TellJ l (zerosJ V) (((V : Int) - 1) * mostD 0 l) a' is n → IOwn W3 W.heap.size (.slice x a'.length c) a' → Below W.heap.size W W3 → SvPost V l w (.returned (.tuple #[.slice x a'.length c, .bool is, .int .i64 n, .int .i64 0])) W3) := Lib.hid (fun a' is n x c W W3 hW ht ho hb => ⟨a', is, n, 0, x, c, rfl, .inl ⟨HR.out, ht, rfl⟩, ho.low hW.size, Below.step hW hb (Nat.le_refl _)⟩)
    unfold RdPost at CL
    generalize ((V : Int) - 1) * mostD 0 l = Q at CM CL HF
    clear CR hin hr v4 hlim
    go_enter Try.func41, Try.ntmps41
    go_wp2_with (go_at_call 36; refine CR2.out.mono ?_; rintro e w1 ⟨rfl, hb1⟩)
    obtain ⟨W0, hmk, HB0, HN0⟩ := HMK.out w1.drew
    go_region_with (first | (go_at_call 54; refine (CM.out _ (by first | exact hb1.drew | exact Below.step hb1.drew HB0.out (Nat.le_refl _))).mono ?_; rintro e w2 ⟨rfl, hb2⟩; obtain ⟨W2, hmk2, HB2, HN2⟩ := HMK.out w2) | (go_at_call 53; refine (CL.out w2 w1.drew.heap.size (Below.step (Below.step hb1.drew HB0.out (Nat.le_refl _)) hb2 (Nat.le_refl _)) ((hb2.block _ (lt_of_block HN0.out)).trans HN0.out)).mono ?_; rintro e w3 ⟨a', is, n, x, c, rfl, ht, hown, hb3⟩; have HP := Lib.hid (HF.out a' is n x c _ w3 (Below.step (Below.step hb1.drew HB0.out (Nat.le_refl _)) hb2 (Nat.le_refl _)) ht hown hb3); clear ht hown hb3) | (go_at_call 53; refine (CL.out W2 w2.heap.size (Below.step (Below.step hb1.drew hb2 (Nat.le_refl _)) HB2.out (Nat.le_refl _)) HN2.out).mono ?_; rintro e w3 ⟨a', is, n, x, c, rfl, ht, hown, hb3⟩; have HP := Lib.hid (HF.out a' is n x c _ w3 (Below.step (Below.step hb1.drew hb2 (Nat.le_refl _)) HB2.out (Nat.le_refl _)) ht hown hb3); clear ht hown hb3))
    all_goals
      go_wp2_with fail
      refine bodyPost_ret (v := .tuple #[.slice x a'.length c, .bool is, .int .i64 n, .int .i64 0]) (by simp [results, Try.f41, go_sem]) rfl HP.out

set_option maxRecDepth 100000 in
set_option maxHeartbeats 4000000 in
theorem r9Solve_int (vars : Int) (l : List Cl) (a : Option Addr) (cap B : Nat) (w : World) (hin : ClsIn w (· < B) l a cap) (hB : B ≤ w.heap.size) :
    Calls Try.prog 41 #[.int .i64 vars, .slice a l.length cap] w (SiPost vars l w) := by
  cases hr : hrB vars l with
  | true =>
    obtain ⟨v1, v2, _, _⟩ := hrB_of hr
    obtain ⟨V, rfl⟩ : ∃ V : Nat, vars = (V : Int) := ⟨vars.toNat, by omega⟩
    exact (r9Solve_any V (by omega) l a cap B w hin hB).mono fun e w' h => h.int
  | false =>
    have hlen := hin.len
    have CR := r8Right_any vars l a cap B w hin hB
    rw [hr] at CR
    have HR := Lib.hid hr
    have CR2 := Lib.hid CR
    clear CR hin hr
    go_enter Try.func41, Try.ntmps41
    go_wp2_with (go_at_call 36; refine CR2.out.mono ?_; rintro e w1 ⟨rfl, hb1⟩)
    refine bodyPost_ret (v := .tuple #[.slice none 0 0, .bool false, .int .i64 0, .int .i64 1]) (by simp [results, Try.f41, go_sem]) rfl ?_
    exact ⟨[], false, 0, 1, none, 0, rfl, .inr ⟨HR.out, rfl, rfl, rfl, rfl⟩, IOwn.nil _ _, hb1⟩
end Go.Proofs.Ytglggigndhbpcaa
/- The contracts of the tests whether a store is right, of the program and of the document. Condition: the store lies in memory. -/
namespace Go.Proofs.Ytglggigndhbpcaa
open Go.RowKit

/-- A store's value. -/
def stV (vars : Int) (a : Option Addr) (n cap : Nat) (am : Option Addr) (k cm : Nat) : Value := .agg #[.int .i64 vars, .slice a n cap, .slice am k cm]
set_option maxRecDepth 100000 in
set_option maxHeartbeats 4000000 in
theorem sRight_any (vars : Int) (l : List Cl) (m : List Int) (a am : Option Addr) (cap cm B : Nat) (w : World) (hin : ClsIn w (· < B) l a cap) (him : IntsIn w (· < B) m am cm) (hB : B ≤ w.heap.size) :
    Calls Try.prog 24 #[.agg #[.int .i64 vars, .slice a l.length cap, .slice am m.length cm]] w fun e w' => e = .returned (.bool (rgS vars l m)) ∧ Below w.heap.size w w' := by
  have hlen := hin.len
  have hlm := him.len
  have CS := Lib.hid (fun (W : World) (hW : Below w.heap.size w W) => jSolve_int vars l a cap B W (hin.below (hW.mono hB)) (Nat.le_trans hB hW.size))
  have CE := Lib.hid (fun (W : World) (z : List Int) (x : Option Addr) (c : Nat) (hW : Below w.heap.size w W) (ho : IntsIn W (· < W.heap.size) z x c) => sequal_any z m x am c cm W.heap.size W ho ((him.below (hW.mono hB)).mono (Nat.le_trans hB hW.size)) (Nat.le_refl _))
  have HY : Hid (posB vars l = true → rgS vars l m = eqI (lmK vars l) m) := Lib.hid (fun h => by unfold rgS; rw [h]; rfl)
  have HN : Hid (posB vars l = false → rgS vars l m = false) := Lib.hid (fun h => by unfold rgS; rw [h]; rfl)
  generalize rgS vars l m = R at HY HN ⊢
  clear hin him
  go_enter Try.func24, Try.ntmps24
  go_wp2_with fail
  refine (CS.out _ ((Below.refl _ _).alloc (Nat.le_refl _) _)).mono ?_
  rintro e w1 ⟨z, is, n1, er, x, c, rfl, hs, ho, b1⟩
  have hbx := (b1.block w.heap.size (by simp)).trans (heap_new _ _)
  have c2 : w1.cell? ⟨w.heap.size, 2, none⟩ = some (.slice am m.length cm) := cell_at hbx 2
  have B1 : Hid (Below w.heap.size w w1) := Lib.hid (Below.step ((Below.refl _ _).alloc (Nat.le_refl _) _) b1 (Nat.le_refl _))
  obtain ⟨hz, rfl, her0⟩ := hs.is
  clear her0
  have HI := Lib.hid ho.ints
  rw [← hz] at HY
  clear hs ho b1 hbx hz
  cases hp : posB vars l with
  | true =>
    obtain rfl := HY.out hp
    have CE2 := Lib.hid (CE.out w1 z x c B1.out HI.out)
    clear HN HY CE CS hp
    go_wp2_with fail
    refine CE2.out.mono ?_
    rintro e w2 ⟨rfl, b2⟩
    have B2 := Lib.hid (Below.step B1.out b2 (Nat.le_refl _))
    clear b2 CE2
    go_wp2_with fail
    go_ret
    exact ⟨rfl, B2.out⟩
  | false =>
    obtain rfl := HN.out hp
    clear HN HY CE CS hp
    go_wp2_with fail
    go_ret
    exact ⟨rfl, B1.out⟩
set_option maxRecDepth 100000 in
set_option maxHeartbeats 4000000 in
theorem r11Right_any (vars : Int) (l : List Cl) (m : List Int) (a am : Option Addr) (cap cm B : Nat) (w : World) (hin : ClsIn w (· < B) l a cap) (him : IntsIn w (· < B) m am cm) (hB : B ≤ w.heap.size) :
    Calls Try.prog 27 #[.agg #[.int .i64 vars, .slice a l.length cap, .slice am m.length cm]] w fun e w' => e = .returned (.bool (rgS vars l m)) ∧ Below w.heap.size w w' := by
  have hlen := hin.len
  have hlm := him.len
  have CS := Lib.hid (fun (W : World) (hW : Below w.heap.size w W) => r9Solve_int vars l a cap B W (hin.below (hW.mono hB)) (Nat.le_trans hB hW.size))
  have CE := Lib.hid (fun (W : World) (z : List Int) (x : Option Addr) (c : Nat) (hW : Below w.heap.size w W) (ho : IntsIn W (· < W.heap.size) z x c) => ints8_any z m x am c cm W.heap.size W ho ((him.below (hW.mono hB)).mono (Nat.le_trans hB hW.size)) (Nat.le_refl _))
  have HY : Hid (posB vars l = true → rgS vars l m = eqI (lmK vars l) m) := Lib.hid (fun h => by unfold rgS; rw [h]; rfl)
  have HN : Hid (posB vars l = false → rgS vars l m = false) := Lib.hid (fun h => by unfold rgS; rw [h]; rfl)
  have HH : Hid (hrB vars l = false → posB vars l = false) := Lib.hid posB_right
  generalize rgS vars l m = R at HY HN ⊢
  clear hin him
  go_enter Try.func27, Try.ntmps27
  go_wp2_with fail
  refine (CS.out _ ((Below.refl _ _).alloc (Nat.le_refl _) _)).mono ?_
  rintro e w1 ⟨z, is, n1, er, x, c, rfl, hs, ho, b1⟩
  have hbx := (b1.block w.heap.size (by simp)).trans (heap_new _ _)
  have c2 : w1.cell? ⟨w.heap.size, 2, none⟩ = some (.slice am m.length cm) := cell_at hbx 2
  have B1 : Hid (Below w.heap.size w w1) := Lib.hid (Below.step ((Below.refl _ _).alloc (Nat.le_refl _) _) b1 (Nat.le_refl _))
  obtain ⟨hz, rfl, her⟩ := hs.is
  have HI := Lib.hid ho.ints
  rw [← hz] at HY
  clear hs ho b1 hbx hz
  cases hr : hrB vars l with
  | false =>
    rw [hr] at her
    obtain rfl : er = 1 := her
    have hp := HH.out hr
    obtain rfl := HN.out hp
    rw [hp]
    clear HN HY CE CS hp HH
    go_wp2_with fail
    go_ret
    exact ⟨rfl, B1.out⟩
  | true =>
    rw [hr] at her
    obtain rfl : er = 0 := her
    clear HH
    cases hp : posB vars l with
    | true =>
      obtain rfl := HY.out hp
      have CE2 := Lib.hid (CE.out w1 z x c B1.out HI.out)
      clear HN HY CE CS hp
      go_wp2_with fail
      refine CE2.out.mono ?_
      rintro e w2 ⟨rfl, b2⟩
      have B2 := Lib.hid (Below.step B1.out b2 (Nat.le_refl _))
      clear b2 CE2
      go_wp2_with fail
      go_ret
      exact ⟨rfl, B2.out⟩
    | false =>
      obtain rfl := HN.out hp
      clear HN HY CE CS hp
      go_wp2_with fail
      go_ret
      exact ⟨rfl, B1.out⟩
end Go.Proofs.Ytglggigndhbpcaa
/- The contract of the document's own Core. Condition: the clauses lie in memory. -/
namespace Go.Proofs.Ytglggigndhbpcaa
open Go.RowKit

theorem rsolve_at {vars : Int} {N : Nat} {l : List Cl} {x : Option Addr} {c : Nat} {W1 W : World} (hc : ClsIn W1 (· < W1.heap.size) l x c) (b1 : Below W1.heap.size W1 W) (hl : l.length = N) : Calls Try.prog 41 #[.int .i64 vars, .slice x N c] W (SiPost vars l W) := by
  subst hl
  exact r9Solve_int vars l x c W.heap.size W ((hc.below b1).mono b1.size) (Nat.le_refl _)
theorem some_at {l : List Cl} {ps : List Int} {a ap : Option Addr} {cap cp n : Nat} {W1 W2 W : World} (hi : InP l.length ps) (hlen : ps.length ≤ 1000) (hin : ClsIn W1 (· < W1.heap.size) l a cap) (b1 : Below W1.heap.size W1 W) (hip : IntsIn W2 (· < W2.heap.size) ps ap cp) (b2 : Below W2.heap.size W2 W) (hn : ps.length = n) :
    Calls Try.prog 55 #[.slice a l.length cap, .slice ap n cp] W fun e w' => ∃ x c, e = .returned (.slice x n c) ∧ ClsIn w' (· < w'.heap.size) (pickL l ps) x c ∧ Below W.heap.size W w' := by
  subst hn
  refine (r10some_any l ps a ap cap cp W.heap.size W hi hlen ((hin.below b1).mono b1.size) ((hip.below b2).mono b2.size) (Nat.le_refl _)).mono ?_
  rintro e w' ⟨x, c, rfl, hr, hb⟩
  have h := hr
  rw [← pickL_len l ps] at h
  exact ⟨x, c, rfl, h.cls hb.size, hb⟩
set_option maxRecDepth 100000 in
set_option maxHeartbeats 16000000 in
theorem r10Core_any (vars : Int) (l : List Cl) (a : Option Addr) (cap B : Nat) (w : World) (hin : ClsIn w (· < B) l a cap) (hB : B ≤ w.heap.size) :
    Calls Try.prog 42 #[.int .i64 vars, .slice a l.length cap] w (RowPost (coreR vars l) (coreE vars l) w) := by
  have hlen := hin.len
  have HC : Hid (ClsIn w (· < w.heap.size) l a cap) := Lib.hid (hin.mono hB)
  have HN : Hid (hrB vars l = false → coreR vars l = [] ∧ coreE vars l = 1) := Lib.hid (fun h => by simp [coreR, coreE, h])
  have HP : Hid (hrB vars l = true → posB vars l = true → coreR vars l = [] ∧ coreE vars l = 0) := Lib.hid (fun h1 h2 => by simp [coreR, coreE, h1, h2])
  have HY : Hid (hrB vars l = true → posB vars l = false → coreR vars l = coreK vars l l.length ∧ coreE vars l = 0) := Lib.hid (fun h1 h2 => by simp [coreR, coreE, h1, h2])
  have HL60 : Hid (hrB vars l = true → l.length ≤ 60) := Lib.hid (fun h => (hrB_of h).2.2.1)
  generalize coreR vars l = R at HN HP HY ⊢
  generalize coreE vars l = E at HN HP HY ⊢
  clear hin
  go_enter Try.func42, Try.ntmps42
  go_wp2_with fail
  refine (rsolve_at HC.out (Below.refl _ _) rfl).mono ?_
  rintro e w1 ⟨z1, is, n1, er, x1, c1, rfl, hs, _, b1⟩
  obtain ⟨rfl, rfl⟩ := hs.told
  have B1 := Lib.hid b1
  clear hs b1
  cases hr : hrB vars l with
  | false => as_aux_lemma =>
    obtain ⟨rfl, rfl⟩ := HN.out hr
    rw [if_neg (by decide)]
    clear HN HP HY hr
    go_wp2_with fail
    go_ret2
    exact RowPost.nil rfl B1.out
  | true =>
    rw [if_pos rfl]
    have hl60 := HL60.out hr
    cases hp : posB vars l with
    | true => as_aux_lemma =>
      obtain ⟨rfl, rfl⟩ := HP.out hr hp
      clear HN HP HY hr hp HL60
      go_wp2_with fail
      go_ret2
      exact RowPost.nil rfl B1.out
    | false =>
      obtain ⟨hR, rfl⟩ := HY.out hr hp
      have HRK := Lib.hid hR
      clear HN HP HY hr hp HL60 hR
      go_wp2_with fail
      go_loopw [10, 11] (fun uv iv wr => ∃ (k : Nat) (u : Value), uv = u ∧ iv = .int .i64 k ∧ k ≤ l.length ∧ Hid (IOwn wr w.heap.size u (uptoK k)) ∧ Hid (Below w.heap.size w wr)) (fun _ iv _ => l.length - (intOf iv).toNat)
      case atStart => exact ⟨0, _, rfl, rfl, Nat.zero_le _, Lib.hid (IOwn.nil _ _), B1⟩
      case round =>
        obtain ⟨k, u, rfl, rfl, hk, hown, hb⟩ := hrel
        by_cases hlt : k < l.length
        · obtain ⟨g2, c2, w3, HRUN, HOW3, HB3⟩ := hown.out.more hb.out 23 k (by rw [uptoK_len]; omega)
          rw [uptoK_len] at HRUN HOW3
          have HN3 : Hid (IOwn w3 w.heap.size (.slice (some ⟨g2, 0, none⟩) (k + 1) c2) (uptoK (k + 1))) := HOW3
          have hlt' : (k : Int) < (l.length : Int) := by omega
          clear hown HOW3
          go_wp2_with (at_builtin; refine wpList_append_run (by rfl) _ _ _ (by rfl) (by rfl) (by rfl) HRUN.out ?_)
          go_roundw
          case rel => exact ⟨k + 1, _, rfl, by go_num, by omega, HN3, HB3⟩
          case measure => simp [intOf]; omega
        · obtain rfl : k = l.length := by omega
          have HK0 : Hid (IOwn wr w.heap.size _ (coreK vars l 0)) := hown
          have hlt' : ¬ (l.length : Int) < (l.length : Int) := by omega
          clear hown
          go_wp2_with fail
          go_loopw [10, 12] (fun uv iv wr => ∃ (i : Nat) (u : Value), uv = u ∧ iv = .int .i64 i ∧ i ≤ l.length ∧ Hid (IOwn wr w.heap.size u (coreK vars l i)) ∧ Hid (Below w.heap.size w wr)) (fun _ iv _ => l.length - (intOf iv).toNat)
          case atStart => exact ⟨0, _, rfl, rfl, Nat.zero_le _, HK0, hb⟩
          case round =>
            clear HK0
            obtain ⟨i, u, rfl, rfl, hi, hown, hb⟩ := hrel
            by_cases hil : i < l.length
            · have hil' : (i : Int) < (l.length : Int) := by omega
              obtain ⟨W0, rfl⟩ : ∃ W0, W0 = wr := ⟨_, rfl⟩
              have HNL := Lib.hid (coreK_len vars l i)
              have HNI := Lib.hid (coreK_in vars l i)
              have HST : Hid (coreK vars l (i + 1) = if posB vars (pickL l (lessK i (coreK vars l i))) = true then coreK vars l i else lessK i (coreK vars l i)) := Lib.hid rfl
              obtain ⟨now, hnow⟩ : ∃ now, now = coreK vars l i := ⟨_, rfl⟩
              rw [← hnow] at hown HNL HNI HST
              have HTK := Lib.hid (fun k (hk : k < now.length) => lessK_take (i := (i : Int)) hk)
              have HLL := Lib.hid (fun k => lessK_len (i : Int) (now.take k))
              obtain ⟨xu, cu, rfl⟩ := hown.out.form
              have hnl := HNL.out
              have HIN := Lib.hid hown.out.ints
              clear hnow
              go_wp2_with fail
              go_loopw [13, 14] (fun vv kv wq => ∃ (k : Nat) (v : Value), vv = v ∧ kv = .int .i64 k ∧ k ≤ now.length ∧ Hid (IOwn wq W0.heap.size v (lessK i (now.take k))) ∧ Hid (Below W0.heap.size W0 wq)) (fun _ kv _ => now.length - (intOf kv).toNat)
              case atStart => exact ⟨0, _, rfl, rfl, Nat.zero_le _, Lib.hid (by simpa [lessK] using IOwn.nil _ _), Lib.hid (Below.refl _ _)⟩
              case round =>
                obtain ⟨k, v, rfl, rfl, hk, hv, hbq⟩ := hrel
                by_cases hkn : k < now.length
                · obtain ⟨gn, on, rfl, _, hcn⟩ := (HIN.out.below hbq.out).some (by omega)
                  have en := hcn k hkn
                  have HT := Lib.hid (HTK.out k hkn)
                  have hkn' : (k : Int) < (now.length : Int) := by omega
                  have hk0 : (0 : Int) ≤ (k : Int) := by omega
                  clear hcn
                  generalize now.getD k 0 = p at en HT
                  by_cases hpi : p = (i : Int)
                  · have HT2 : Hid (IOwn wr W0.heap.size _ (lessK i (now.take (k + 1)))) := Lib.hid (by rw [HT.out, if_pos hpi, List.append_nil]; exact hv.out)
                    have d1 : (p != (i : Int)) = false := by simp [hpi]
                    clear HT hv hpi
                    go_wp2_with fail
                    go_roundw
                    case rel => exact ⟨k + 1, _, rfl, by go_num, by omega, HT2, hbq⟩
                    case measure => simp [intOf]; omega
                  · have d1 : (p != (i : Int)) = true := by simpa using hpi
                    obtain ⟨g2, c2, w3, HRUN, HOW3, HB3⟩ := hv.out.more hbq.out 23 p (by have := HLL.out k; rw [List.length_take] at this; omega)
                    obtain ⟨xv, cv, rfl⟩ := hv.out.form
                    have HT2 : Hid (IOwn w3 W0.heap.size (.slice (some ⟨g2, 0, none⟩) ((lessK i (now.take k)).length + 1) c2) (lessK i (now.take (k + 1)))) := Lib.hid (by rw [HT.out, if_neg hpi]; exact HOW3.out)
                    generalize (lessK i (now.take k)).length = nl at HRUN HOW3 HT2 hv ⊢
                    clear HT hv hpi HOW3
                    go_wp2_with (at_builtin; refine wpList_append_run (by rfl) _ _ _ (by rfl) (by rfl) (by rfl) HRUN.out ?_)
                    go_roundw
                    case rel => exact ⟨k + 1, _, rfl, by go_num, by omega, HT2, HB3⟩
                    case measure => simp [intOf]; omega
                · have hkn' : ¬ (k : Int) < (now.length : Int) := by omega
                  have HV : Hid (IOwn wr W0.heap.size _ (lessK i now)) := Lib.hid (by have := hv.out; rwa [List.take_of_length_le (by omega)] at this)
                  obtain ⟨xv, cv, rfl⟩ := HV.out.form
                  have HLE := Lib.hid (lessK_len (i : Int) now)
                  have HLI := Lib.hid (lessK_in (i := (i : Int)) HNI.out)
                  obtain ⟨less, hless⟩ : ∃ q, q = lessK i now := ⟨_, rfl⟩
                  rw [← hless] at HV HST HLE HLI
                  rw [← hless]
                  have B5 := Lib.hid (Below.step hb.out hbq.out (Nat.le_refl _))
                  clear hv hless
                  go_wp2_with fail
                  refine (some_at HLI.out (by have := HLE.out; omega) HC.out B5.out HV.out.ints (Below.refl _ _) rfl).mono ?_
                  rintro e w6 ⟨x6, c6, rfl, hc6, b6⟩
                  have HC6 := Lib.hid hc6
                  have B6 := Lib.hid (Below.step B5.out b6 (Nat.le_refl _))
                  have L6 := Lib.hid b6
                  clear hc6 b6
                  go_wp2_with fail
                  refine (rsolve_at HC6.out (Below.refl _ _) (pickL_len l less)).mono ?_
                  rintro e w7 ⟨z7, is7, n7, er7, x7, c7, rfl, hs7, _, b7⟩
                  have h7 := hs7.told.1
                  have B7 := Lib.hid (Below.step B6.out b7 (Nat.le_refl _))
                  have L7 := Lib.hid (Below.step L6.out b7 (Nat.le_refl _))
                  rw [← h7] at HST
                  clear hs7 b7 h7
                  cases is7 with
                  | true =>
                    have HO : Hid (IOwn w7 w.heap.size (.slice xu now.length cu) (coreK vars l (i + 1))) := Lib.hid (by
                      rw [HST.out, if_pos rfl]
                      exact hown.out.keep (fun g hg => ((hbq.out.trans (L7.out.mono hbq.out.size)).block g (hown.out.lt g hg).2)))
                    clear HST hown
                    go_wp2_with fail
                    go_roundw
                    case rel => exact ⟨i + 1, _, rfl, by go_num, by omega, HO, B7⟩
                    case measure => simp [intOf]; omega
                  | false =>
                    have HO : Hid (IOwn w7 w.heap.size (.slice xv less.length cv) (coreK vars l (i + 1))) := Lib.hid (by
                      rw [HST.out, if_neg (by decide)]
                      exact (HV.out.keep (fun g hg => L7.out.block g (HV.out.lt g hg).2)).low hb.out.size)
                    clear HST hown
                    go_wp2_with fail
                    go_roundw
                    case rel => exact ⟨i + 1, _, rfl, by go_num, by omega, HO, B7⟩
                    case measure => simp [intOf]; omega
            · obtain rfl : i = l.length := by omega
              obtain ⟨xu, cu, rfl⟩ := hown.out.form
              have HE : Hid (RowPost R 0 w (.returned (.tuple #[.slice xu (coreK vars l l.length).length cu, .int .i64 0])) wr) := Lib.hid (by rw [HRK.out]; exact ⟨xu, cu, rfl, hown.out, hb.out⟩)
              have hlt' : ¬ (l.length : Int) < (l.length : Int) := by omega
              generalize (coreK vars l l.length).length = nk at HE hown ⊢
              clear hown
              go_wp2_with fail
              go_ret2
              exact HE.out
end Go.Proofs.Ytglggigndhbpcaa
/- The contract of the program's Core, as a condition. -/
namespace Go.Proofs.Ytglggigndhbpcaa
open Go.RowKit

/-- The contract of the program's Core. -/
def CoreC : Prop := ∀ (vars : Int) (l : List Cl) (a : Option Addr) (cap B : Nat) (w : World), ClsIn w (· < B) l a cap → B ≤ w.heap.size → Calls Try.prog 43 #[.int .i64 vars, .slice a l.length cap] w (RowPost (coreR vars l) (coreE vars l) w)
end Go.Proofs.Ytglggigndhbpcaa
