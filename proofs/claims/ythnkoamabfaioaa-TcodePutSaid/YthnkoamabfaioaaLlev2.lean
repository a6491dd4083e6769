/- The contract of the reader's level: what the recursive reader of bytes tells, or a panic with its error; nothing that was there changes but the reader's own block. -/
import Derived.Test.YthnkoamabfaioaaLlev
namespace Go.Proofs.Ythnkoamabfaioaa
open Go.RowKit

/-- The level that is handed back, when it has been laid into the result's variable. -/
theorem lv_fin {w w1 w2 : World} {R : Nat} {s : ByteArray} {q l : Nat} {F : Fo} {x : Option Addr} {c : Nat} (hg1 : w.grownBy w1 (some R)) (hN : w.heap.size < w1.heap.size) (hg2 : w1.grownBy w2 (some R)) (hR : R < w.heap.size) (hat : RdAt w2 R s q l)
    (hs : SlIn w2 (fun b => w1.heap.size ≤ b ∧ b < w2.heap.size) F x c) (k n : Nat) {K M : Int} (hK : K = k) (hM : M = n) :
    LvPost R s (.ok k n F q l) w (.returned (.agg #[.int .i64 K, .int .i64 M, .slice x F.len c])) (((w2.setCell ⟨w.heap.size, 0, none⟩ (.int .i64 K)).setCell ⟨w.heap.size, 1, none⟩ (.int .i64 M)).setCell ⟨w.heap.size, 2, none⟩ (.slice x F.len c)) := by
  subst hK hM
  have u0 := set3_only (w := w2) w.heap.size (.int .i64 k) (.int .i64 n) (.slice x F.len c)
  refine ⟨Only.past (Only.after hg1 hg2) u0 (Nat.le_refl _), x, c, rfl, hs.carry u0 (by omega) (by omega), ?_⟩
  exact (Only.block u0 (lt_of_block hat) (by omega)).trans hat
theorem rdL_none (s : ByteArray) (d p : Nat) : rdL s (d + 1) p 0 = .no 2 := by rw [rdL, if_pos rfl]
theorem rdL_num {s : ByteArray} {d p l : Nat} (hl : l ≠ 0) (h : (num s p).2.2 ≠ 0) : rdL s (d + 1) p l = .no (num s p).2.2 := by rw [rdL, if_neg hl, if_pos h]
theorem rdL_kind {s : ByteArray} {d p l k q : Nat} (hl : l ≠ 0) (h : num s p = (k, q, 0)) : rdL s (d + 1) p l = rdK s (rdL s d) k q (l - 1) := by rw [rdL, if_neg hl, h]; simp
theorem rdK_1 (s : ByteArray) (st : Nat → Nat → Rl) (p l : Nat) : rdK s st 1 p l = .ok 1 0 .nil p l := rfl
theorem rdK_2 (s : ByteArray) (st : Nat → Nat → Rl) (p l : Nat) : rdK s st 2 p l = (rows st 1 p l).wrap 2 := rfl
theorem rdK_3 (s : ByteArray) (st : Nat → Nat → Rl) (p l : Nat) : rdK s st 3 p l = (rows st 2 p l).wrap 3 := rfl
theorem rdK_4 (s : ByteArray) (st : Nat → Nat → Rl) (p l : Nat) : rdK s st 4 p l = (rows st 2 p l).wrap 4 := rfl
theorem rdK_5 (s : ByteArray) (st : Nat → Nat → Rl) (p l : Nat) : rdK s st 5 p l = rdN s 5 5 p l := rfl
theorem rdK_6 (s : ByteArray) (st : Nat → Nat → Rl) (p l : Nat) : rdK s st 6 p l = rdN s 10 6 p l := rfl
theorem rdK_no (s : ByteArray) (st : Nat → Nat → Rl) {k : Nat} (p l : Nat) (h : k = 0 ∨ 6 < k) : rdK s st k p l = .no 20 := by
  unfold rdK
  rw [if_neg (by omega), if_neg (by omega), if_neg (by omega), if_neg (by omega), if_neg (by omega), if_neg (by omega)]
theorem rdN_no {s : ByteArray} {lim k p l : Nat} (h : (num s p).2.2 ≠ 0) : rdN s lim k p l = .no (num s p).2.2 := if_pos h
theorem rdN_big {s : ByteArray} {lim k p l n q : Nat} (h : num s p = (n, q, 0)) (hl : lim ≤ n) : rdN s lim k p l = .no 20 := by rw [rdN, h, if_neg (by simp), if_pos hl]
theorem rdN_ok {s : ByteArray} {lim k p l n q : Nat} (h : num s p = (n, q, 0)) (hl : ¬ lim ≤ n) : rdN s lim k p l = .ok k n .nil q l := by rw [rdN, h, if_neg (by simp), if_neg hl]
/-- What a number is, at a place within the bytes. -/
theorem num_two (s : ByteArray) (p : Nat) : (num s p).2.2 ≠ 0 ∨ ∃ k q, num s p = (k, q, 0) ∧ q ≤ s.size := by
  rcases num_cases s p with h | ⟨m, cnt, h, _, h2, _⟩
  · exact .inl h
  · exact .inr ⟨m, _, h, h2⟩

set_option maxRecDepth 100000 in
set_option maxHeartbeats 8000000 in
theorem llevel_any (R : Nat) (s : ByteArray) (hs : s.size ≤ maxLen) : ∀ d : Nat, d ≤ 12 → LvAny R s d := by
  intro d
  induction d with
  | zero =>
    intro _ p l w hat hp hl
    have hg := Lib.hid (Only.alloc w R (.cells #[.int .i64 0, .int .i64 0, .slice none 0 0] 33))
    show Calls Try.prog 99 #[.pointer (some ⟨R, 0, none⟩), .int .i64 0] w _
    go_enter Try.func99, Try.ntmps99
    go_wp2_with fail
    exact ⟨rfl, hg.out, rfl⟩
  | succ d ih =>
    intro hd p l w hat hp hl
    have HL : Hid (LvAny R s d) := Lib.hid (ih (by omega))
    clear ih
    obtain ⟨D, hD⟩ : ∃ D : Int, D = ((d + 1 : Nat) : Int) := ⟨_, rfl⟩
    rw [← hD]
    have hD1 : 1 ≤ D := by omega
    have hD2 : D ≤ 100 := by omega
    have HDD : Hid (D - 1 = ((d : Nat) : Int)) := Lib.hid (by omega)
    have dd : (D == 0) = false := beq_eq_false_iff_ne.2 (by omega)
    clear hD
    obtain ⟨c0, c1, c2, f1, f2, hR⟩ := hat.facts
    have hne : R ≠ w.heap.size := by omega
    by_cases hl0 : l = 0
    · rw [hl0, rdL_none]
      have dl : ((l : Int) == 0) = true := beq_iff_eq.2 (by omega)
      have hg := Lib.hid (Only.alloc w R (.cells #[.int .i64 0, .int .i64 0, .slice none 0 0] 33))
      clear hl0
      go_enter Try.func99, Try.ntmps99
      go_wp2_with fail
      exact ⟨rfl, hg.out, rfl⟩
    · have dl : ((l : Int) == 0) = false := beq_eq_false_iff_ne.2 (by omega)
      have hl1 : 1 ≤ l := by omega
      have HA0 : Hid (RdAt ((w.setCell ⟨R, 2, none⟩ (.int .i64 ((l : Int) - 1))).alloc (.cells #[.int .i64 0, .int .i64 0, .slice none 0 0] 33)) R s p (l - 1)) := Lib.hid (by
        have h0 := hat.left (l - 1)
        rw [show ((l - 1 : Nat) : Int) = (l : Int) - 1 by omega] at h0
        exact (heap_old _ _ (by simpa using hR)).trans h0)
      have HG0 : Hid (w.grownBy ((w.setCell ⟨R, 2, none⟩ (.int .i64 ((l : Int) - 1))).alloc (.cells #[.int .i64 0, .int .i64 0, .slice none 0 0] 33)) (some R)) := Lib.hid (Only.after (Only.set _ _ _ _) (Only.alloc _ _ _))
      -- what is known behind the number, whatever it is
      have HAFT : Hid (∀ w1 : World, ((w.setCell ⟨R, 2, none⟩ (.int .i64 ((l : Int) - 1))).alloc (.cells #[.int .i64 0, .int .i64 0, .slice none 0 0] 33)).grownBy w1 (some R) → w1.heap[w.heap.size]? = some (.cells #[.int .i64 0, .int .i64 0, .slice none 0 0] 33 (0, 0)) ∧ w.grownBy w1 (some R) ∧ w.heap.size < w1.heap.size) := Lib.hid (by
        intro w1 h1
        have e0 := heap_new (w.setCell ⟨R, 2, none⟩ (.int .i64 ((l : Int) - 1))) (.cells #[.int .i64 0, .int .i64 0, .slice none 0 0] 33)
        rw [show (w.setCell ⟨R, 2, none⟩ (.int .i64 ((l : Int) - 1))).heap.size = w.heap.size by simp] at e0
        have e1 := (Only.block h1 (b := w.heap.size) (by simp) (by omega)).trans e0
        exact ⟨e1, Only.after HG0.out h1, lt_of_block e1⟩)
      rcases num_two s p with hn | ⟨k, q, hn, hq⟩
      · rw [rdL_num hl0 hn]
        have HN := Lib.hid (fun (W : World) (h : RdAt W R s p (l - 1)) => lnum_no R s p (l - 1) _ W h hs hp rfl hn)
        generalize (num s p).2.2 = er at HN ⊢
        clear hn hl0 hat
        go_enter Try.func99, Try.ntmps99
        go_wp2_with fail
        refine (HN.out _ HA0.out).mono ?_
        rintro e w1 ⟨rfl, hg1⟩
        have HG1 := Lib.hid (HAFT.out w1 hg1).2.1
        clear hg1
        go_wp2_with fail
        exact ⟨rfl, HG1.out, rfl⟩
      · rw [rdL_kind hl0 hn]
        have HLS := Lib.hid (fun (c : Nat) (hc : c ≤ 100) (W : World) (h : RdAt W R s q (l - 1)) => llevels_any R s d HL c q (l - 1) W hc h hq (by omega))
        clear hl0 hat
        have hl2 : l - 1 ≤ 100 := by omega
        by_cases k1 : k = 1
        · subst k1
          rw [rdK_1]
          have HN : Hid (∀ (W : World), RdAt W R s p (l - 1) → Calls Try.prog 101 #[.pointer (some ⟨R, 0, none⟩)] W fun e w' => e = .returned (.int .i64 1) ∧ RdAt w' R s q (l - 1) ∧ W.grownBy w' (some R)) := Lib.hid (fun W h => lnum_ok R s p (l - 1) 1 q W h hs hp hn)
          clear hn
          go_enter Try.func99, Try.ntmps99
          go_wp2_with fail
          refine (HN.out _ HA0.out).mono ?_
          rintro e w1 ⟨rfl, hat1, hg1⟩
          obtain ⟨hR1, hg1', hz1⟩ := HAFT.out w1 hg1
          obtain ⟨r0, r1, r2⟩ := cells3 hR1
          have rf := free_of hR1
          have HE := Lib.hid (lv_fin hg1' hz1 (Only.refl w1 R) hR hat1 (SlIn.none w1 _) 1 0 (K := 1) (M := 0) rfl rfl)
          clear hR1 hg1' hg1 hat1
          go_wp2_with fail
          refine bodyPost_ret (v := .agg #[.int .i64 1, .int .i64 0, .slice none 0 0]) (by simp [results, Try.results99, go_sem, r0, r1, r2]) rfl ?_
          exact HE.out
        by_cases k2 : k = 2
        · subst k2
          rw [rdK_2]
          have HN : Hid (∀ (W : World), RdAt W R s p (l - 1) → Calls Try.prog 101 #[.pointer (some ⟨R, 0, none⟩)] W fun e w' => e = .returned (.int .i64 2) ∧ RdAt w' R s q (l - 1) ∧ W.grownBy w' (some R)) := Lib.hid (fun W h => lnum_ok R s p (l - 1) 2 q W h hs hp hn)
          clear hn
          go_enter Try.func99, Try.ntmps99
          go_wp2_with fail
          refine (HN.out _ HA0.out).mono ?_
          rintro e w1 ⟨rfl, hat1, hg1⟩
          obtain ⟨hR1, hg1', hz1⟩ := HAFT.out w1 hg1
          obtain ⟨r0, r1, r2⟩ := cells3 hR1
          have rf := free_of hR1
          have HAT1 := Lib.hid hat1
          have HG1 := Lib.hid hg1'
          have HLS' : Hid (Calls Try.prog 102 #[.pointer (some ⟨R, 0, none⟩), .int .i64 1, .int .i64 (D - 1)] w1 (LsPost R s (rows (rdL s d) 1 q (l - 1)) w1)) := Lib.hid (by rw [HDD.out]; exact HLS.out 1 (by omega) w1 hat1)
          clear hR1 hg1' hg1 hat1 HLS
          go_wp2_with fail
          refine HLS'.out.mono ?_
          rintro e w2 h2
          obtain ⟨rs, hrs⟩ : ∃ rs, rows (rdL s d) 1 q (l - 1) = rs := ⟨_, rfl⟩
          rw [hrs] at h2
          have HRS := Lib.hid hrs
          clear hrs HLS'
          cases rs with
          | no er =>
            obtain ⟨hg2, rfl⟩ := h2
            have HG2 := Lib.hid (Only.after HG1.out hg2)
            clear hg2
            go_wp2_with fail
            rw [HRS.out]
            exact ⟨rfl, HG2.out, rfl⟩
          | ok F q2 l2 =>
            obtain ⟨hg2, x, cc, rfl, hs2, hat2⟩ := h2
            have HE := Lib.hid (lv_fin HG1.out hz1 hg2 hR hat2 hs2 2 0 (K := 2) (M := 0) rfl rfl)
            have hb2 := Only.block hg2 (b := w.heap.size) hz1 (by omega)
            have r0' := (World.cell?_of_block (a := ⟨w.heap.size, 0, none⟩) hb2).trans r0
            have r1' := (World.cell?_of_block (a := ⟨w.heap.size, 1, none⟩) hb2).trans r1
            have r2' := (World.cell?_of_block (a := ⟨w.heap.size, 2, none⟩) hb2).trans r2
            have rf' : ∀ o, w2.frozen? ⟨w.heap.size, o, none⟩ = false := fun o => (World.frozen?_of_block (a := ⟨w.heap.size, o, none⟩) hb2).trans (rf o)
            clear hg2 hs2 hat2 hb2 r0 r1 r2 rf
            go_wp2_with fail
            refine bodyPost_ret (v := .agg #[.int .i64 2, .int .i64 0, .slice x F.len cc]) (by simp [results, Try.results99, go_sem, r0', r1', r2']) rfl ?_
            rw [HRS.out]
            exact HE.out
        by_cases k3 : k = 3
        · subst k3
          rw [rdK_3]
          have HN : Hid (∀ (W : World), RdAt W R s p (l - 1) → Calls Try.prog 101 #[.pointer (some ⟨R, 0, none⟩)] W fun e w' => e = .returned (.int .i64 3) ∧ RdAt w' R s q (l - 1) ∧ W.grownBy w' (some R)) := Lib.hid (fun W h => lnum_ok R s p (l - 1) 3 q W h hs hp hn)
          clear hn
          go_enter Try.func99, Try.ntmps99
          go_wp2_with fail
          refine (HN.out _ HA0.out).mono ?_
          rintro e w1 ⟨rfl, hat1, hg1⟩
          obtain ⟨hR1, hg1', hz1⟩ := HAFT.out w1 hg1
          obtain ⟨r0, r1, r2⟩ := cells3 hR1
          have rf := free_of hR1
          have HAT1 := Lib.hid hat1
          have HG1 := Lib.hid hg1'
          have HLS' : Hid (Calls Try.prog 102 #[.pointer (some ⟨R, 0, none⟩), .int .i64 2, .int .i64 (D - 1)] w1 (LsPost R s (rows (rdL s d) 2 q (l - 1)) w1)) := Lib.hid (by rw [HDD.out]; exact HLS.out 2 (by omega) w1 hat1)
          clear hR1 hg1' hg1 hat1 HLS
          go_wp2_with fail
          refine HLS'.out.mono ?_
          rintro e w2 h2
          obtain ⟨rs, hrs⟩ : ∃ rs, rows (rdL s d) 2 q (l - 1) = rs := ⟨_, rfl⟩
          rw [hrs] at h2
          have HRS := Lib.hid hrs
          clear hrs HLS'
          cases rs with
          | no er =>
            obtain ⟨hg2, rfl⟩ := h2
            have HG2 := Lib.hid (Only.after HG1.out hg2)
            clear hg2
            go_wp2_with fail
            rw [HRS.out]
            exact ⟨rfl, HG2.out, rfl⟩
          | ok F q2 l2 =>
            obtain ⟨hg2, x, cc, rfl, hs2, hat2⟩ := h2
            have HE := Lib.hid (lv_fin HG1.out hz1 hg2 hR hat2 hs2 3 0 (K := 3) (M := 0) rfl rfl)
            have hb2 := Only.block hg2 (b := w.heap.size) hz1 (by omega)
            have r0' := (World.cell?_of_block (a := ⟨w.heap.size, 0, none⟩) hb2).trans r0
            have r1' := (World.cell?_of_block (a := ⟨w.heap.size, 1, none⟩) hb2).trans r1
            have r2' := (World.cell?_of_block (a := ⟨w.heap.size, 2, none⟩) hb2).trans r2
            have rf' : ∀ o, w2.frozen? ⟨w.heap.size, o, none⟩ = false := fun o => (World.frozen?_of_block (a := ⟨w.heap.size, o, none⟩) hb2).trans (rf o)
            clear hg2 hs2 hat2 hb2 r0 r1 r2 rf
            go_wp2_with fail
            refine bodyPost_ret (v := .agg #[.int .i64 3, .int .i64 0, .slice x F.len cc]) (by simp [results, Try.results99, go_sem, r0', r1', r2']) rfl ?_
            rw [HRS.out]
            exact HE.out
        by_cases k4 : k = 4
        · subst k4
          rw [rdK_4]
          have HN : Hid (∀ (W : World), RdAt W R s p (l - 1) → Calls Try.prog 101 #[.pointer (some ⟨R, 0, none⟩)] W fun e w' => e = .returned (.int .i64 4) ∧ RdAt w' R s q (l - 1) ∧ W.grownBy w' (some R)) := Lib.hid (fun W h => lnum_ok R s p (l - 1) 4 q W h hs hp hn)
          clear hn
          go_enter Try.func99, Try.ntmps99
          go_wp2_with fail
          refine (HN.out _ HA0.out).mono ?_
          rintro e w1 ⟨rfl, hat1, hg1⟩
          obtain ⟨hR1, hg1', hz1⟩ := HAFT.out w1 hg1
          obtain ⟨r0, r1, r2⟩ := cells3 hR1
          have rf := free_of hR1
          have HAT1 := Lib.hid hat1
          have HG1 := Lib.hid hg1'
          have HLS' : Hid (Calls Try.prog 102 #[.pointer (some ⟨R, 0, none⟩), .int .i64 2, .int .i64 (D - 1)] w1 (LsPost R s (rows (rdL s d) 2 q (l - 1)) w1)) := Lib.hid (by rw [HDD.out]; exact HLS.out 2 (by omega) w1 hat1)
          clear hR1 hg1' hg1 hat1 HLS
          go_wp2_with fail
          refine HLS'.out.mono ?_
          rintro e w2 h2
          obtain ⟨rs, hrs⟩ : ∃ rs, rows (rdL s d) 2 q (l - 1) = rs := ⟨_, rfl⟩
          rw [hrs] at h2
          have HRS := Lib.hid hrs
          clear hrs HLS'
          cases rs with
          | no er =>
            obtain ⟨hg2, rfl⟩ := h2
            have HG2 := Lib.hid (Only.after HG1.out hg2)
            clear hg2
            go_wp2_with fail
            rw [HRS.out]
            exact ⟨rfl, HG2.out, rfl⟩
          | ok F q2 l2 =>
            obtain ⟨hg2, x, cc, rfl, hs2, hat2⟩ := h2
            have HE := Lib.hid (lv_fin HG1.out hz1 hg2 hR hat2 hs2 4 0 (K := 4) (M := 0) rfl rfl)
            have hb2 := Only.block hg2 (b := w.heap.size) hz1 (by omega)
            have r0' := (World.cell?_of_block (a := ⟨w.heap.size, 0, none⟩) hb2).trans r0
            have r1' := (World.cell?_of_block (a := ⟨w.heap.size, 1, none⟩) hb2).trans r1
            have r2' := (World.cell?_of_block (a := ⟨w.heap.size, 2, none⟩) hb2).trans r2
            have rf' : ∀ o, w2.frozen? ⟨w.heap.size, o, none⟩ = false := fun o => (World.frozen?_of_block (a := ⟨w.heap.size, o, none⟩) hb2).trans (rf o)
            clear hg2 hs2 hat2 hb2 r0 r1 r2 rf
            go_wp2_with fail
            refine bodyPost_ret (v := .agg #[.int .i64 4, .int .i64 0, .slice x F.len cc]) (by simp [results, Try.results99, go_sem, r0', r1', r2']) rfl ?_
            rw [HRS.out]
            exact HE.out
        by_cases k5 : k = 5
        · subst k5
          rw [rdK_5]
          have HN : Hid (∀ (W : World), RdAt W R s p (l - 1) → Calls Try.prog 101 #[.pointer (some ⟨R, 0, none⟩)] W fun e w' => e = .returned (.int .i64 5) ∧ RdAt w' R s q (l - 1) ∧ W.grownBy w' (some R)) := Lib.hid (fun W h => lnum_ok R s p (l - 1) 5 q W h hs hp hn)
          clear hn
          rcases num_two s q with hm | ⟨n, q2, hm, hq2⟩
          · rw [rdN_no hm]
            have HB := Lib.hid (fun (W : World) (h : RdAt W R s q (l - 1)) => lbelow_no R s q (l - 1) _ 5 W h hs hq rfl hm)
            generalize (num s q).2.2 = er at HB ⊢
            clear hm
            go_enter Try.func99, Try.ntmps99
            go_wp2_with fail
            refine (HN.out _ HA0.out).mono ?_
            rintro e w1 ⟨rfl, hat1, hg1⟩
            obtain ⟨hR1, hg1', hz1⟩ := HAFT.out w1 hg1
            obtain ⟨r0, r1, r2⟩ := cells3 hR1
            have rf := free_of hR1
            have HG1 := Lib.hid hg1'
            have HB' : Hid (Calls Try.prog 103 #[.pointer (some ⟨R, 0, none⟩), .int .i64 5] w1 fun e w' => e = .panicked [{ v := faultV er, recovered := false }] ∧ w1.grownBy w' (some R)) := Lib.hid (HB.out w1 hat1)
            clear hR1 hg1' hg1 hat1 HLS HB
            go_wp2_with fail
            refine HB'.out.mono ?_
            rintro e w2 ⟨rfl, hg2⟩
            have HG2 := Lib.hid (Only.after HG1.out hg2)
            clear hg2
            go_wp2_with fail
            exact ⟨rfl, HG2.out, rfl⟩
          · by_cases hlim : 5 ≤ n
            · rw [rdN_big hm hlim]
              have HB := Lib.hid (fun (W : World) (h : RdAt W R s q (l - 1)) => lbelow_big R s q (l - 1) n q2 5 W h hs hq hm hlim)
              clear hm hlim
              go_enter Try.func99, Try.ntmps99
              go_wp2_with fail
              refine (HN.out _ HA0.out).mono ?_
              rintro e w1 ⟨rfl, hat1, hg1⟩
              obtain ⟨hR1, hg1', hz1⟩ := HAFT.out w1 hg1
              obtain ⟨r0, r1, r2⟩ := cells3 hR1
              have rf := free_of hR1
              have HG1 := Lib.hid hg1'
              have HB' : Hid (Calls Try.prog 103 #[.pointer (some ⟨R, 0, none⟩), .int .i64 5] w1 fun e w' => e = .panicked [{ v := faultV 20, recovered := false }] ∧ w1.grownBy w' (some R)) := Lib.hid (HB.out w1 hat1)
              clear hR1 hg1' hg1 hat1 HLS HB
              go_wp2_with fail
              refine HB'.out.mono ?_
              rintro e w2 ⟨rfl, hg2⟩
              have HG2 := Lib.hid (Only.after HG1.out hg2)
              clear hg2
              go_wp2_with fail
              exact ⟨rfl, HG2.out, rfl⟩
            · rw [rdN_ok hm hlim]
              have HB := Lib.hid (fun (W : World) (h : RdAt W R s q (l - 1)) => lbelow_ok R s q (l - 1) n q2 5 W h hs hq hm (by omega))
              clear hm hlim
              go_enter Try.func99, Try.ntmps99
              go_wp2_with fail
              refine (HN.out _ HA0.out).mono ?_
              rintro e w1 ⟨rfl, hat1, hg1⟩
              obtain ⟨hR1, hg1', hz1⟩ := HAFT.out w1 hg1
              obtain ⟨r0, r1, r2⟩ := cells3 hR1
              have rf := free_of hR1
              have HG1 := Lib.hid hg1'
              have HB' : Hid (Calls Try.prog 103 #[.pointer (some ⟨R, 0, none⟩), .int .i64 5] w1 fun e w' => e = .returned (.int .i64 n) ∧ RdAt w' R s q2 (l - 1) ∧ w1.grownBy w' (some R)) := Lib.hid (HB.out w1 hat1)
              clear hR1 hg1' hg1 hat1 HLS HB
              go_wp2_with fail
              refine HB'.out.mono ?_
              rintro e w2 ⟨rfl, hat2, hg2⟩
              have HE := Lib.hid (lv_fin HG1.out hz1 hg2 hR hat2 (SlIn.none w2 _) 5 n (K := 5) (M := n) rfl rfl)
              have hb2 := Only.block hg2 (b := w.heap.size) hz1 (by omega)
              have r0' := (World.cell?_of_block (a := ⟨w.heap.size, 0, none⟩) hb2).trans r0
              have r1' := (World.cell?_of_block (a := ⟨w.heap.size, 1, none⟩) hb2).trans r1
              have r2' := (World.cell?_of_block (a := ⟨w.heap.size, 2, none⟩) hb2).trans r2
              have rf' : ∀ o, w2.frozen? ⟨w.heap.size, o, none⟩ = false := fun o => (World.frozen?_of_block (a := ⟨w.heap.size, o, none⟩) hb2).trans (rf o)
              clear hg2 hat2 hb2 r0 r1 r2 rf
              go_wp2_with fail
              refine bodyPost_ret (v := .agg #[.int .i64 5, .int .i64 n, .slice none 0 0]) (by simp [results, Try.results99, go_sem, r0', r1', r2']) rfl ?_
              exact HE.out
        by_cases k6 : k = 6
        · subst k6
          rw [rdK_6]
          have HN : Hid (∀ (W : World), RdAt W R s p (l - 1) → Calls Try.prog 101 #[.pointer (some ⟨R, 0, none⟩)] W fun e w' => e = .returned (.int .i64 6) ∧ RdAt w' R s q (l - 1) ∧ W.grownBy w' (some R)) := Lib.hid (fun W h => lnum_ok R s p (l - 1) 6 q W h hs hp hn)
          clear hn
          rcases num_two s q with hm | ⟨n, q2, hm, hq2⟩
          · rw [rdN_no hm]
            have HB := Lib.hid (fun (W : World) (h : RdAt W R s q (l - 1)) => lbelow_no R s q (l - 1) _ 10 W h hs hq rfl hm)
            generalize (num s q).2.2 = er at HB ⊢
            clear hm
            go_enter Try.func99, Try.ntmps99
            go_wp2_with fail
            refine (HN.out _ HA0.out).mono ?_
            rintro e w1 ⟨rfl, hat1, hg1⟩
            obtain ⟨hR1, hg1', hz1⟩ := HAFT.out w1 hg1
            obtain ⟨r0, r1, r2⟩ := cells3 hR1
            have rf := free_of hR1
            have HG1 := Lib.hid hg1'
            have HB' : Hid (Calls Try.prog 103 #[.pointer (some ⟨R, 0, none⟩), .int .i64 10] w1 fun e w' => e = .panicked [{ v := faultV er, recovered := false }] ∧ w1.grownBy w' (some R)) := Lib.hid (HB.out w1 hat1)
            clear hR1 hg1' hg1 hat1 HLS HB
            go_wp2_with fail
            refine HB'.out.mono ?_
            rintro e w2 ⟨rfl, hg2⟩
            have HG2 := Lib.hid (Only.after HG1.out hg2)
            clear hg2
            go_wp2_with fail
            exact ⟨rfl, HG2.out, rfl⟩
          · by_cases hlim : 10 ≤ n
            · rw [rdN_big hm hlim]
              have HB := Lib.hid (fun (W : World) (h : RdAt W R s q (l - 1)) => lbelow_big R s q (l - 1) n q2 10 W h hs hq hm hlim)
              clear hm hlim
              go_enter Try.func99, Try.ntmps99
              go_wp2_with fail
              refine (HN.out _ HA0.out).mono ?_
              rintro e w1 ⟨rfl, hat1, hg1⟩
              obtain ⟨hR1, hg1', hz1⟩ := HAFT.out w1 hg1
              obtain ⟨r0, r1, r2⟩ := cells3 hR1
              have rf := free_of hR1
              have HG1 := Lib.hid hg1'
              have HB' : Hid (Calls Try.prog 103 #[.pointer (some ⟨R, 0, none⟩), .int .i64 10] w1 fun e w' => e = .panicked [{ v := faultV 20, recovered := false }] ∧ w1.grownBy w' (some R)) := Lib.hid (HB.out w1 hat1)
              clear hR1 hg1' hg1 hat1 HLS HB
              go_wp2_with fail
              refine HB'.out.mono ?_
              rintro e w2 ⟨rfl, hg2⟩
              have HG2 := Lib.hid (Only.after HG1.out hg2)
              clear hg2
              go_wp2_with fail
              exact ⟨rfl, HG2.out, rfl⟩
            · rw [rdN_ok hm hlim]
              have HB := Lib.hid (fun (W : World) (h : RdAt W R s q (l - 1)) => lbelow_ok R s q (l - 1) n q2 10 W h hs hq hm (by omega))
              clear hm hlim
              go_enter Try.func99, Try.ntmps99
              go_wp2_with fail
              refine (HN.out _ HA0.out).mono ?_
              rintro e w1 ⟨rfl, hat1, hg1⟩
              obtain ⟨hR1, hg1', hz1⟩ := HAFT.out w1 hg1
              obtain ⟨r0, r1, r2⟩ := cells3 hR1
              have rf := free_of hR1
              have HG1 := Lib.hid hg1'
              have HB' : Hid (Calls Try.prog 103 #[.pointer (some ⟨R, 0, none⟩), .int .i64 10] w1 fun e w' => e = .returned (.int .i64 n) ∧ RdAt w' R s q2 (l - 1) ∧ w1.grownBy w' (some R)) := Lib.hid (HB.out w1 hat1)
              clear hR1 hg1' hg1 hat1 HLS HB
              go_wp2_with fail
              refine HB'.out.mono ?_
              rintro e w2 ⟨rfl, hat2, hg2⟩
              have HE := Lib.hid (lv_fin HG1.out hz1 hg2 hR hat2 (SlIn.none w2 _) 6 n (K := 6) (M := n) rfl rfl)
              have hb2 := Only.block hg2 (b := w.heap.size) hz1 (by omega)
              have r0' := (World.cell?_of_block (a := ⟨w.heap.size, 0, none⟩) hb2).trans r0
              have r1' := (World.cell?_of_block (a := ⟨w.heap.size, 1, none⟩) hb2).trans r1
              have r2' := (World.cell?_of_block (a := ⟨w.heap.size, 2, none⟩) hb2).trans r2
              have rf' : ∀ o, w2.frozen? ⟨w.heap.size, o, none⟩ = false := fun o => (World.frozen?_of_block (a := ⟨w.heap.size, o, none⟩) hb2).trans (rf o)
              clear hg2 hat2 hb2 r0 r1 r2 rf
              go_wp2_with fail
              refine bodyPost_ret (v := .agg #[.int .i64 6, .int .i64 n, .slice none 0 0]) (by simp [results, Try.results99, go_sem, r0', r1', r2']) rfl ?_
              exact HE.out
        · rw [rdK_no s _ q (l - 1) (k := k) (by omega)]
          have e1 : ((k : Int) == 1) = false := beq_eq_false_iff_ne.2 (by omega)
          have e2 : ((k : Int) == 2) = false := beq_eq_false_iff_ne.2 (by omega)
          have e3 : ((k : Int) == 3) = false := beq_eq_false_iff_ne.2 (by omega)
          have e4 : ((k : Int) == 4) = false := beq_eq_false_iff_ne.2 (by omega)
          have e5 : ((k : Int) == 5) = false := beq_eq_false_iff_ne.2 (by omega)
          have e6 : ((k : Int) == 6) = false := beq_eq_false_iff_ne.2 (by omega)
          clear k1 k2 k3 k4 k5 k6
          have HN : Hid (∀ (W : World), RdAt W R s p (l - 1) → Calls Try.prog 101 #[.pointer (some ⟨R, 0, none⟩)] W fun e w' => e = .returned (.int .i64 k) ∧ RdAt w' R s q (l - 1) ∧ W.grownBy w' (some R)) := Lib.hid (fun W h => lnum_ok R s p (l - 1) k q W h hs hp hn)
          clear hn
          go_enter Try.func99, Try.ntmps99
          go_wp2_with fail
          refine (HN.out _ HA0.out).mono ?_
          rintro e w1 ⟨rfl, hat1, hg1⟩
          obtain ⟨hR1, hg1', hz1⟩ := HAFT.out w1 hg1
          obtain ⟨r0, r1, r2⟩ := cells3 hR1
          have rf := free_of hR1
          have HG1 := Lib.hid hg1'
          clear hR1 hg1' hg1 hat1 HLS
          go_wp2_with fail
          exact ⟨rfl, HG1.out, rfl⟩
end Go.Proofs.Ythnkoamabfaioaa
