/- The contract of the document's own reader's term: what the recursive reader of bytes tells; an error lies in the reader's block. No condition but those that stand in each statement. -/
import Derived.Test.YthnkoamabfaioaaUst
import Derived.Test.YthnkoamabfaioaaHeldM
import Derived.Test.YthnkoamabfaioaaStep
import Derived.Deep.CutBlock
import Derived.Deep.LoopGhost
import Derived.Deep.DeepCutAuto
import Derived.Deep.RegionLaw
import Derived.IntWalk
import Derived.RangeFuncBox
namespace Go.Proofs.Ythnkoamabfaioaa
open Go.RowKit

set_option maxRecDepth 100000 in
set_option maxHeartbeats 16000000 in
theorem r14term_any (R : Nat) (s : ByteArray) (hs : s.size ≤ maxLen) : ∀ d : Nat, d ≤ 30 → RtAny R s d := by
  intro d
  induction d with
  | zero =>
    intro _ b p m w hat hp hm hb
    obtain ⟨c0, c1, c2, c3, fz, hR⟩ := hat.facts
    have hne : R ≠ w.heap.size := by omega
    have HE : Hid (RtPost R s (.no 2) w (.returned (.agg #[.int .i64 0, .int .i64 0, .slice none 0 0, .slice none 0 0])) ((w.setCell ⟨R, 3, none⟩ (.int .i64 2)).alloc (.cells #[.int .i64 0, .int .i64 0, .slice none 0 0, .slice none 0 0] 29))) := Lib.hid ⟨0, 0, none, 0, 0, none, 0, 0, rfl, Only.after (Only.set _ _ _ _) (Only.alloc _ _ _), p, _, (heap_old _ _ (by simpa using hR)).trans (hat.set3 2)⟩
    show Calls Try.prog 32 #[.pointer (some ⟨R, 0, none⟩), .int .i64 30, .int .i64 b] w _
    go_enter Try.func32, Try.ntmps32
    go_wp2_with fail
    refine bodyPost_ret (v := .agg #[.int .i64 0, .int .i64 0, .slice none 0 0, .slice none 0 0]) (by simp [results, Try.results32, go_sem]) rfl ?_
    exact HE.out
  | succ d ih =>
    intro hd b p m w hat hp hm hb
    have HL : Hid (RtAny R s d) := Lib.hid (ih (by omega))
    clear ih
    obtain ⟨V, hV⟩ : ∃ V : Int, V = 30 - ((d + 1 : Nat) : Int) := ⟨_, rfl⟩
    rw [← hV]
    have hV1 : 0 ≤ V := by omega
    have hV2 : V ≤ 29 := by omega
    have HVV : Hid (V + 1 = 30 - ((d : Nat) : Int)) := Lib.hid (by omega)
    have dv : decide (30 ≤ V) = false := by simp; omega
    clear hV
    obtain ⟨c0, c1, c2, c3, fz, hR⟩ := hat.facts
    have hne : R ≠ w.heap.size := by omega
    by_cases hm0 : 600 ≤ m
    · have em : rdT s (d + 1) b p m = .no 2 := by rw [rdT, if_pos hm0]
      rw [em]
      obtain rfl : m = 600 := by omega
      have c2' : w.cell? ⟨R, 2, none⟩ = some (.int .i64 600) := c2
      clear c2
      have HE : Hid (RtPost R s (.no 2) w (.returned (.agg #[.int .i64 0, .int .i64 0, .slice none 0 0, .slice none 0 0])) ((w.setCell ⟨R, 3, none⟩ (.int .i64 2)).alloc (.cells #[.int .i64 0, .int .i64 0, .slice none 0 0, .slice none 0 0] 29))) := Lib.hid ⟨0, 0, none, 0, 0, none, 0, 0, rfl, Only.after (Only.set _ _ _ _) (Only.alloc _ _ _), p, _, (heap_old _ _ (by simpa using hR)).trans (hat.set3 2)⟩
      clear em
      go_enter Try.func32, Try.ntmps32
      go_wp2_with fail
      refine bodyPost_ret (v := .agg #[.int .i64 0, .int .i64 0, .slice none 0 0, .slice none 0 0]) (by simp [results, Try.results32, go_sem]) rfl ?_
      exact HE.out
    · have hm1 : m < 600 := by omega
      have hm2 : (m : Int) < 600 := by omega
      have dl : decide (600 ≤ (m : Int)) = false := by simp; omega
      have HA0 : Hid (R4At ((w.setCell ⟨R, 2, none⟩ (.int .i64 ((m : Int) + 1))).alloc (.cells #[.int .i64 0, .int .i64 0, .slice none 0 0, .slice none 0 0] 29)) R s p (m + 1) 0) := Lib.hid (by
        have h0 := hat.set2 (m + 1)
        rw [show ((m + 1 : Nat) : Int) = (m : Int) + 1 by omega] at h0
        exact (heap_old _ _ (by simpa using hR)).trans h0)
      have HAFT : Hid (∀ (k : Int) (w1 : World), ((w.setCell ⟨R, 2, none⟩ (.int .i64 ((m : Int) + 1))).alloc (.cells #[.int .i64 0, .int .i64 0, .slice none 0 0, .slice none 0 0] 29)).grownBy w1 (some R) → StB w R w1.heap.size k (w1.alloc (.cells #[.int .i64 k, .int .i64 0, .slice none 0 0, .slice none 0 0] 29))) := Lib.hid (by
        intro k w1 h1
        have e0 := heap_new (w.setCell ⟨R, 2, none⟩ (.int .i64 ((m : Int) + 1))) (.cells #[.int .i64 0, .int .i64 0, .slice none 0 0, .slice none 0 0] 29)
        rw [show (w.setCell ⟨R, 2, none⟩ (.int .i64 ((m : Int) + 1))).heap.size = w.heap.size by simp] at e0
        have e1 := (Only.block h1 (b := w.heap.size) (by simp) (by omega)).trans e0
        have hz := lt_of_block e1
        exact ⟨(heap_old _ _ hz).trans e1, heap_new _ _, Only.after (Only.after (Only.after (Only.set _ _ _ _) (Only.alloc _ _ _)) h1) (Only.alloc _ _ _), hz⟩)
      have HKD : Hid (∀ k q E : Nat, NIs s p 1099511627777 k q E → (E ≠ 0 ∧ k = 0 ∧ rdT s (d + 1) b p m = .no E) ∨ (E = 0 ∧ rdT s (d + 1) b p m = rdKt s (rdT s d) k b q (m + 1))) := Lib.hid (fun k q E h => rdT_kind hm1 h)
      generalize rdT s (d + 1) b p m = r at HKD ⊢
      have HNM : Hid (∀ (most q : Nat) (W : World), q ≤ s.size → R4At W R s q (m + 1) 0 → Calls Try.prog 50 #[.pointer (some ⟨R, 0, none⟩), .int .i64 most] W fun e w' => ∃ n q' E : Nat, e = .returned (.int .i64 n) ∧ NIs s q most n q' E ∧ R4At w' R s q' (m + 1) E ∧ W.grownBy w' (some R)) := Lib.hid (fun most q W hq h => r14number_two R s q (m + 1) most W h hs hq)
      have HNB : Hid (∀ (q : Nat) (W : World), q ≤ s.size → R4At W R s q (m + 1) 0 → Calls Try.prog 50 #[.pointer (some ⟨R, 0, none⟩), .int .i64 (1000 + (b : Int))] W fun e w' => ∃ n q' E : Nat, e = .returned (.int .i64 n) ∧ NIs s q (1000 + b) n q' E ∧ R4At w' R s q' (m + 1) E ∧ W.grownBy w' (some R)) := Lib.hid (fun q W hq h => by
        have h1 := r14number_two R s q (m + 1) (1000 + b) W h hs hq
        rwa [show ((1000 + b : Nat) : Int) = 1000 + (b : Int) by omega] at h1)
      have HNE : Hid (∀ (most q E : Nat) (W : World), E ≠ 0 → R4At W R s q (m + 1) E → Calls Try.prog 50 #[.pointer (some ⟨R, 0, none⟩), .int .i64 most] W fun e w' => e = .returned (.int .i64 0) ∧ w' = W) := Lib.hid (fun most q E W hE h => r14number_err R s q (m + 1) E most W h hE)
      have HLV : Hid (∀ (q : Nat) (W : World), q ≤ s.size → R4At W R s q (m + 1) 0 → Calls Try.prog 51 #[.pointer (some ⟨R, 0, none⟩)] W (VlPost R s q (m + 1) (rdL s 12 q 100) W)) := Lib.hid (fun q W hq h => r14level_any R s q (m + 1) W h hs hq)
      have HP := Lib.hid (And.intro hp (And.intro (show m + 1 ≤ 600 by omega) hR))
      have hbI : (b : Int) + 1 ≤ 1000 := by omega
      have hbI0 : 0 ≤ (b : Int) := by omega
      have HBD := Lib.hid (And.intro hb hd)
      clear hat c3 c0 c1 hm1 hm0 hp hb hd
      go_enter Try.func32, Try.ntmps32
      go_wp2_with fail
      refine (HNM.out 1099511627777 p _ HP.out.1 HA0.out).mono ?_
      rintro e w1 ⟨k, q, E, rfl, hni, hat1, hg1⟩
      have HST := Lib.hid (HAFT.out k w1 hg1)
      have HA1 : Hid (R4At (w1.alloc (.cells #[.int .i64 k, .int .i64 0, .slice none 0 0, .slice none 0 0] 29)) R s q (m + 1) E) := Lib.hid ((heap_old _ _ (lt_of_block hat1)).trans hat1)
      have HK := Lib.hid (HKD.out k q E hni)
      have HQ := Lib.hid (hni.le HP.out.1)
      clear hni hat1 hg1 HKD HAFT HA0 c2 fz hR
      go_upto_block 0 with fail
      generalize w1.alloc (.cells #[.int .i64 k, .int .i64 0, .slice none 0 0, .slice none 0 0] 29) = WB at HST HA1 ⊢
      generalize w1.heap.size = TB at HST ⊢
      clear hne dl dv hm2
      go_cut [8, 9] from 10 to 121 (fun s8 s9 wx => ∃ (c : Nat) (bd k : Int) (E : Nat), s8 = .int .i64 c ∧ s9 = .int .i64 bd ∧ c ≤ 3 ∧ Hid (∀ i : Nat, i < c → ((i : Int) = bd ↔ bindK k i = 1)) ∧ Hid (LpT w R s TB r d b k c 0 E (.slice none 0 0) wx))
      case first =>
        obtain ⟨t0, t1, t2, t3, tz, tB⟩ := HST.out.facts
        obtain ⟨_, a1, a2, a3, az, aR⟩ := HA1.out.facts
        have hRT : R ≠ TB := by have := HP.out.2.2; have := HST.out.2.2.2; omega
        rcases HK.out with ⟨hE, rfl, hr⟩ | ⟨rfl, hr⟩
        · have bE : ((E : Int) == 0) = false := beq_eq_false_iff_ne.2 (by omega)
          subst hr
          go_wp2_with fail
          go_meet
          exact ⟨0, -1, 0, E, rfl, rfl, by omega, Lib.hid (fun i hi => absurd hi (Nat.not_lt_zero i)), Lib.hid (HST.out.no HA1.out hE 0)⟩
        · have a3' : WB.cell? ⟨R, 3, none⟩ = some (.int .i64 0) := a3
          clear a3
          by_cases k1 : k = 1
          · subst k1
            go_wp2_with fail
            refine (HNB.out q WB HQ.out HA1.out).mono ?_
            rintro e w2 ⟨n, q2, E2, rfl, hn2, hat2, hg2⟩
            have h2 := HST.out.call HP.out.2.2 hg2
            obtain ⟨y0, y1, y2, y3, yz, yB⟩ := h2.facts
            have HF := Lib.hid (StB.var (d := d) (b := b) h2 hat2 hn2 HP.out.2.2 HQ.out HP.out.2.1)
            rw [← hr] at HF
            clear h2 hat2 hn2 hg2 t0 t1 t2 t3 tz tB a1 a2 a3' az aR
            go_wp2_with fail
            go_meet
            exact ⟨0, -1, 1, E2, rfl, rfl, by omega, Lib.hid (fun i hi => absurd hi (Nat.not_lt_zero i)), Lib.hid (HF.out)⟩
          by_cases k2 : k = 2
          · subst k2
            go_wp2_with fail
            refine (HLV.out q WB HQ.out HA1.out).mono ?_
            rintro e w2 ⟨k1', n1, q1, E2, F, x, c1, rfl, l1, l2, l3, l4⟩
            obtain ⟨y2, y2a, yz, hF⟩ := StB.sort (d := d) (b := b) HST.out HP.out.2.2 HQ.out HP.out.2.1 l1 l2 l3 l4
            have HF := Lib.hid hF
            rw [show (rowsV s 1 q).term 2 0 (m + 1) = r from hr.symm] at HF
            clear hF l1 l2 l3 l4 t0 t1 t2 t3 tz tB a1 a2 a3' az aR
            go_wp2_with fail
            go_meet
            exact ⟨0, -1, 2, E2, rfl, rfl, by omega, Lib.hid (fun i hi => absurd hi (Nat.not_lt_zero i)), Lib.hid (HF.out)⟩
          by_cases k3 : k = 3
          · subst k3
            go_wp2_with fail
            refine (HNM.out 20 q WB HQ.out HA1.out).mono ?_
            rintro e w2 ⟨N, q2, E2, rfl, hn2, hat2, hg2⟩
            have hr3 : r = if E2 = 0 then rdC s N q2 (m + 1) else .no E2 := by rw [hr]; exact rdKt_const hn2
            have hq2 := hn2.le HQ.out
            have h2 := HST.out.call HP.out.2.2 hg2
            obtain ⟨y0, y1, y2, y3, yz, yB⟩ := h2.facts
            have hat3 := (h2.setN (N : Int)).2.2.2 R hRT
            clear hn2 hg2 t0 t1 t2 t3 tz tB a1 a2 a3' az aR
            by_cases hE2 : E2 = 0
            · subst hE2
              rw [if_pos rfl] at hr3
              have HA3 : Hid (R4At (w2.setCell ⟨TB, 1, none⟩ (.int .i64 N)) R s q2 (m + 1) 0) := Lib.hid (hat3.trans hat2)
              have HS2 := Lib.hid h2
              clear hat2 hat3 h2
              go_wp2_with fail
              refine (HNM.out 6 q2 _ hq2 HA3.out).mono ?_
              rintro e w3 ⟨C3, q3, E3, rfl, hn3, hat4, hg4⟩
              have hr4 : r = if E3 = 0 then (rowsV s C3 q3).term 3 N (m + 1) else .no E3 := by rw [hr3]; exact rdC_two hn3
              have hq3 := hn3.le hq2
              clear y0 y1 y2 y3 yz yB
              by_cases hE3 : E3 = 0
              · have hC : C3 ≤ 5 := by
                  rcases hn3 with ⟨h, _⟩ | ⟨_, _, h⟩
                  · exact absurd hE3 h
                  · omega
                subst hE3
                rw [if_pos rfl] at hr4
                have HCS := Lib.hid (StB.cons (n := N) (c := C3) HS2.out HP.out.2.2 hg4 hat4 hq3)
                rw [← hr4] at HCS
                clear hn3 hat4 hg4 hr3 hr4
                go_wp2_with fail
                go_loopw [11] (fun iv wr => ∃ (j E : Nat) (v : Value), iv = .int .i64 j ∧ j ≤ C3 ∧ Hid (CsT w R s TB r N (m + 1) C3 j E v wr)) (fun iv _ => 10 - (intOf iv).toNat)
                case atStart => exact ⟨0, _, _, rfl, Nat.zero_le _, HCS⟩
                case round =>
                  clear HCS
                  obtain ⟨j, E, v, rfl, hj, hCS⟩ := hrel
                  obtain ⟨⟨p', hatr⟩, u2, uz, uB⟩ := hCS.out.facts
                  obtain ⟨_, _, _, b3, bz, bR⟩ := hatr.facts
                  clear hatr
                  by_cases hE : E = 0
                  · subst hE
                    have b3' : wr.cell? ⟨R, 3, none⟩ = some (.int .i64 0) := b3
                    clear b3
                    by_cases hlt : j < C3
                    · have hlt' : (j : Int) < (C3 : Int) := by omega
                      have dj : decide ((j : Int) < (C3 : Int)) = true := by simpa using hlt'
                      obtain ⟨p2, g5, g6, hN⟩ := hCS.out.next hlt (by omega) HP.out.2.2
                      have HN := Lib.hid hN
                      clear hN
                      go_upto_region 21 with fail
                      refine wp_region_L (fun (w' : World) => Hid True ∧ w'.cell? ⟨TB, 2, none⟩ = some v) 7 (by kernel_rfl) ?_
                      have hH := (show (fun (w' : World) => Hid True ∧ w'.cell? ⟨TB, 2, none⟩ = some v) wr.drew from ⟨Lib.hid trivial, u2⟩)
                      try simp only [Act.put, List.setIfInBounds_toArray, List.set_cons_zero, List.set_cons_succ]
                      refine wpAnyL_take (i := 0) (v := ?_) (by simp only [List.getElem?_toArray, List.getElem?_cons_zero]; rfl) (by kernel_rfl) (by kernel_rfl) (by kernel_rfl) (by kernel_rfl) (by intro _ _ _ h; exact h) (Or.inl ⟨by rfl, ?_⟩) hH ?_
                      rotate_left
                      · intro w' hSw
                        obtain ⟨s0, s1⟩ := hSw
                        go_simp
                        try with_reducible rfl
                      try simp only [Act.put, List.setIfInBounds_toArray, List.set_cons_zero, List.set_cons_succ]
                      refine wpAnyL_take (i := 1) (v := ?_) (by simp only [List.getElem?_toArray, List.getElem?_cons_succ, List.getElem?_cons_zero]; rfl) (by kernel_rfl) (by kernel_rfl) (by kernel_rfl) (by kernel_rfl) (by intro _ _ _ h; exact h) (Or.inl ⟨by rfl, ?_⟩) hH ?_
                      rotate_left
                      · intro w' hSw
                        obtain ⟨s0, s1⟩ := hSw
                        go_simp
                        try with_reducible rfl
                      try simp only [Act.put, List.setIfInBounds_toArray, List.set_cons_zero, List.set_cons_succ]
                      refine wpAnyL_take (i := 2) (v := ?_) (by simp only [List.getElem?_toArray, List.getElem?_cons_succ, List.getElem?_cons_zero]; rfl) (by kernel_rfl) (by kernel_rfl) (by kernel_rfl) (by kernel_rfl) (by intro _ _ _ h; exact h) (Or.inl ⟨by rfl, ?_⟩) hH ?_
                      rotate_left
                      · intro w' hSw
                        obtain ⟨s0, s1⟩ := hSw
                        go_simp
                        try with_reducible rfl
                      try simp only [Act.put, List.setIfInBounds_toArray, List.set_cons_zero, List.set_cons_succ]
                      refine wpAnyL_ready (rs := [3]) (by kernel_rfl) (by simp) ?_
                      refine AllReadyL.cons (o := _) (by simp only [List.getElem?_toArray, List.getElem?_cons_succ, List.getElem?_cons_zero]; rfl) (fun K hK => ?_) AllReadyL.nil
                      go_simp
                      go_at_call 51
                      refine (HLV.out p2 wr.drew g6 g5).mono ?_
                      rintro e w2 ⟨k1, n1, q1, E', F, x, c1, rfl, q2, q3, q4, q5⟩
                      obtain ⟨L2, L2a, g', cap', w3, HRUN, L3, Z3, HNX⟩ := HN.out w2 k1 n1 q1 E' F x c1 q2 q3 ⟨q4.os, q4.tape, q4.output, q4.size, q4.block⟩ q5
                      clear hH q2 q3 q4 q5
                      refine hK.out _ _ ⟨Lib.hid trivial, L2⟩ (fun hH => ?_)
                      clear hK K
                      try simp only [Act.put, List.setIfInBounds_toArray, List.set_cons_zero, List.set_cons_succ]
                      refine wpAnyL_ready (rs := [4]) (by kernel_rfl) (by simp) ?_
                      refine AllReadyL.cons (o := _) (by simp only [List.getElem?_toArray, List.getElem?_cons_succ, List.getElem?_cons_zero]; rfl) (fun K hK => ?_) AllReadyL.nil
                      go_simp
                      clear hH
                      refine hK.out _ _ ⟨Lib.hid trivial, L2a⟩ (fun hH => ?_)
                      clear hK K
                      try simp only [Act.put, List.setIfInBounds_toArray, List.set_cons_zero, List.set_cons_succ]
                      refine wpAnyL_ready (rs := [5]) (by kernel_rfl) (by simp) ?_
                      refine AllReadyL.cons (o := _) (by simp only [List.getElem?_toArray, List.getElem?_cons_succ, List.getElem?_cons_zero]; rfl) (fun K hK => ?_) AllReadyL.nil
                      refine step_append (by rfl) _ _ _ (by rfl) (by rfl) (by rfl) HRUN.out ?_
                      clear hH
                      refine hK.out _ _ ⟨Lib.hid trivial, L3⟩ (fun hH => ?_)
                      clear hK K
                      try simp only [Act.put, List.setIfInBounds_toArray, List.set_cons_zero, List.set_cons_succ]
                      refine wpAnyL_take (i := 6) (v := ?_) (by simp only [List.getElem?_toArray, List.getElem?_cons_succ, List.getElem?_cons_zero]; rfl) (by kernel_rfl) (by kernel_rfl) (by kernel_rfl) (by kernel_rfl) (by intro _ _ _ h; exact h) (Or.inl ⟨by rfl, ?_⟩) hH ?_
                      rotate_left
                      · intro w' hSw
                        obtain ⟨s0, s1⟩ := hSw
                        go_simp
                        try with_reducible rfl
                      try simp only [Act.put, List.setIfInBounds_toArray, List.set_cons_zero, List.set_cons_succ]
                      refine wpAnyL_last (o := _) (by kernel_rfl) (by simp only [List.getElem?_toArray, List.getElem?_cons_succ, List.getElem?_cons_zero]; rfl) (fun K hK => ?_)
                      go_simp
                      clear hH
                      refine hK.out _ _ ?_
                      clear hK K
                      try simp only [Act.put, List.setIfInBounds_toArray, List.set_cons_zero, List.set_cons_succ]
                      refine wpAnyL_done (by kernel_rfl) ?_ _
                      go_wp2_with fail
                      go_roundw
                      case rel => exact ⟨j + 1, E', _, by go_num, by omega, HNX⟩
                      case measure => simp [intOf]; omega
                    · have dj : decide ((j : Int) < (C3 : Int)) = false := by simp; omega
                      go_wp2_with fail
                      go_meet
                      exact ⟨0, -1, 3, 0, rfl, rfl, by omega, Lib.hid (fun i hi => absurd hi (Nat.not_lt_zero i)), Lib.hid (hCS.out.done (.inr (by omega)) HP.out.2.1 0 (fun _ => rfl))⟩
                  · have bE : ((E : Int) == 0) = false := beq_eq_false_iff_ne.2 (by omega)
                    by_cases hlt : (j : Int) < (C3 : Int)
                    · have dj : decide ((j : Int) < (C3 : Int)) = true := by simpa using hlt
                      go_wp2_with fail
                      go_meet
                      exact ⟨0, -1, 3, E, rfl, rfl, by omega, Lib.hid (fun i hi => absurd hi (Nat.not_lt_zero i)), Lib.hid (hCS.out.done (.inl hE) HP.out.2.1 0 (fun _ => rfl))⟩
                    · have dj : decide ((j : Int) < (C3 : Int)) = false := by simpa using hlt
                      go_wp2_with fail
                      go_meet
                      exact ⟨0, -1, 3, E, rfl, rfl, by omega, Lib.hid (fun i hi => absurd hi (Nat.not_lt_zero i)), Lib.hid (hCS.out.done (.inl hE) HP.out.2.1 0 (fun _ => rfl))⟩
              · have hC : C3 = 0 := by
                  rcases hn3 with ⟨_, h, _⟩ | ⟨h, _⟩
                  · exact h
                  · exact absurd h hE3
                subst hC
                rw [if_neg hE3] at hr4
                have HCS := Lib.hid (StB.consE (n := N) (c := 0) HS2.out HP.out.2.2 hE3 hg4 hat4 hq3)
                rw [← hr4] at HCS
                clear hn3 hat4 hg4 hr3 hr4
                go_wp2_with fail
                go_loopw [11] (fun iv wr => ∃ (j E : Nat) (v : Value), iv = .int .i64 j ∧ j ≤ 0 ∧ Hid (CsT w R s TB r N (m + 1) 0 j E v wr)) (fun iv _ => 10 - (intOf iv).toNat)
                case atStart => exact ⟨0, _, _, rfl, Nat.zero_le _, HCS⟩
                case round =>
                  clear HCS
                  obtain ⟨j, E, v, rfl, hj, hCS⟩ := hrel
                  obtain ⟨⟨p', hatr⟩, u2, uz, uB⟩ := hCS.out.facts
                  obtain ⟨_, _, _, b3, bz, bR⟩ := hatr.facts
                  clear hatr
                  obtain rfl : j = 0 := by omega
                  by_cases hE : E = 0
                  · subst hE
                    have b3' : wr.cell? ⟨R, 3, none⟩ = some (.int .i64 0) := b3
                    go_wp2_with fail
                    go_meet
                    exact ⟨0, -1, 3, 0, rfl, rfl, by omega, Lib.hid (fun i hi => absurd hi (Nat.not_lt_zero i)), Lib.hid (hCS.out.done (.inr (Nat.le_refl _)) HP.out.2.1 0 (fun _ => rfl))⟩
                  · have bE : ((E : Int) == 0) = false := beq_eq_false_iff_ne.2 (by omega)
                    go_wp2_with fail
                    go_meet
                    exact ⟨0, -1, 3, E, rfl, rfl, by omega, Lib.hid (fun i hi => absurd hi (Nat.not_lt_zero i)), Lib.hid (hCS.out.done (.inl hE) HP.out.2.1 0 (fun _ => rfl))⟩
            · rw [if_neg hE2] at hr3
              have HA3 : Hid (R4At (w2.setCell ⟨TB, 1, none⟩ (.int .i64 N)) R s q2 (m + 1) E2) := Lib.hid (hat3.trans hat2)
              have HCS := Lib.hid (StB.consN h2 hat2 hE2 HP.out.2.2 hq2 N)
              rw [← hr3] at HCS
              clear hat2 hat3 h2 hr3
              go_wp2_with fail
              refine (HNE.out 6 q2 E2 _ hE2 HA3.out).mono ?_
              rintro e w3 ⟨rfl, rfl⟩
              clear y0 y1 y2 y3 yz yB
              go_wp2_with fail
              go_loopw [11] (fun iv wr => ∃ (j E : Nat) (v : Value), iv = .int .i64 j ∧ j ≤ 0 ∧ Hid (CsT w R s TB r N (m + 1) 0 j E v wr)) (fun iv _ => 10 - (intOf iv).toNat)
              case atStart => exact ⟨0, _, _, rfl, Nat.zero_le _, HCS⟩
              case round =>
                clear HCS
                obtain ⟨j, E, v, rfl, hj, hCS⟩ := hrel
                obtain ⟨⟨p', hatr⟩, u2, uz, uB⟩ := hCS.out.facts
                obtain ⟨_, _, _, b3, bz, bR⟩ := hatr.facts
                clear hatr
                obtain rfl : j = 0 := by omega
                by_cases hE : E = 0
                · subst hE
                  have b3' : wr.cell? ⟨R, 3, none⟩ = some (.int .i64 0) := b3
                  go_wp2_with fail
                  go_meet
                  exact ⟨0, -1, 3, 0, rfl, rfl, by omega, Lib.hid (fun i hi => absurd hi (Nat.not_lt_zero i)), Lib.hid (hCS.out.done (.inr (Nat.le_refl _)) HP.out.2.1 0 (fun _ => rfl))⟩
                · have bE : ((E : Int) == 0) = false := beq_eq_false_iff_ne.2 (by omega)
                  go_wp2_with fail
                  go_meet
                  exact ⟨0, -1, 3, E, rfl, rfl, by omega, Lib.hid (fun i hi => absurd hi (Nat.not_lt_zero i)), Lib.hid (hCS.out.done (.inl hE) HP.out.2.1 0 (fun _ => rfl))⟩
          by_cases k4 : k = 4
          · subst k4
            have HF := Lib.hid (StB.kids (kN := 4) (d := d) (b := b) HST.out HA1.out HQ.out HP.out.2.1 2)
            rw [show (rowsT (rdT s d) ((4 : Nat) : Int) b 2 0 q (m + 1)).wrap 4 = r from hr.symm] at HF
            go_wp2_with fail
            go_meet
            exact ⟨2, -1, 4, 0, rfl, rfl, by omega, Lib.hid (fun i hi => by have h : i = 0 ∨ i = 1 := (by omega); rcases h with rfl | rfl <;> simp [bindK]), Lib.hid (HF.out)⟩
          by_cases k5 : k = 5
          · subst k5
            have HF := Lib.hid (StB.kids (kN := 5) (d := d) (b := b) HST.out HA1.out HQ.out HP.out.2.1 2)
            rw [show (rowsT (rdT s d) ((5 : Nat) : Int) b 2 0 q (m + 1)).wrap 5 = r from hr.symm] at HF
            go_wp2_with fail
            go_meet
            exact ⟨2, 1, 5, 0, rfl, rfl, by omega, Lib.hid (fun i hi => by have h : i = 0 ∨ i = 1 := (by omega); rcases h with rfl | rfl <;> simp [bindK]), Lib.hid (HF.out)⟩
          by_cases k6 : k = 6
          · subst k6
            have HF := Lib.hid (StB.kids (kN := 6) (d := d) (b := b) HST.out HA1.out HQ.out HP.out.2.1 2)
            rw [show (rowsT (rdT s d) ((6 : Nat) : Int) b 2 0 q (m + 1)).wrap 6 = r from hr.symm] at HF
            go_wp2_with fail
            go_meet
            exact ⟨2, 1, 6, 0, rfl, rfl, by omega, Lib.hid (fun i hi => by have h : i = 0 ∨ i = 1 := (by omega); rcases h with rfl | rfl <;> simp [bindK]), Lib.hid (HF.out)⟩
          by_cases k7 : k = 7
          · subst k7
            have HF := Lib.hid (StB.kids (kN := 7) (d := d) (b := b) HST.out HA1.out HQ.out HP.out.2.1 3)
            rw [show (rowsT (rdT s d) ((7 : Nat) : Int) b 3 0 q (m + 1)).wrap 7 = r from hr.symm] at HF
            go_wp2_with fail
            go_meet
            exact ⟨3, 2, 7, 0, rfl, rfl, by omega, Lib.hid (fun i hi => by have h : i = 0 ∨ i = 1 ∨ i = 2 := (by omega); rcases h with rfl | rfl | rfl <;> simp [bindK]), Lib.hid (HF.out)⟩
          have hk0 : k = 0 ∨ 7 < k := by omega
          have e1 : ((k : Int) == 1) = false := beq_eq_false_iff_ne.2 (by omega)
          have e2 : ((k : Int) == 2) = false := beq_eq_false_iff_ne.2 (by omega)
          have e3 : ((k : Int) == 3) = false := beq_eq_false_iff_ne.2 (by omega)
          have e4 : ((k : Int) == 4) = false := beq_eq_false_iff_ne.2 (by omega)
          have e5 : ((k : Int) == 5) = false := beq_eq_false_iff_ne.2 (by omega)
          have e6 : ((k : Int) == 6) = false := beq_eq_false_iff_ne.2 (by omega)
          have e7 : ((k : Int) == 7) = false := beq_eq_false_iff_ne.2 (by omega)
          rw [rdKt_none hk0] at hr
          subst hr
          clear k1 k2 k3 k4 k5 k6 k7 hk0
          go_wp2_with fail
          go_meet
          exact ⟨0, -1, k, 20, rfl, rfl, by omega, Lib.hid (fun i hi => absurd hi (Nat.not_lt_zero i)), Lib.hid (StB.bad HST.out HP.out.2.2 HA1.out 0)⟩
      case rest =>
        obtain ⟨c, bd, k, E, rfl, rfl, hc, HBI, hL⟩ := hcut
        clear HST HA1 HK HQ HNM HNB HNE HLV
        go_wp2_with fail
        go_loopw [12] (fun iv wr => ∃ (j E : Nat) (v : Value), iv = .int .i64 j ∧ j ≤ c ∧ Hid (LpT w R s TB r d b k c j E v wr)) (fun iv _ => 10 - (intOf iv).toNat)
        case atStart => exact ⟨0, E, _, rfl, Nat.zero_le _, hL⟩
        case round =>
          clear hL
          obtain ⟨j, E, v, rfl, hj, hLR⟩ := hrel
          obtain ⟨⟨p', m', hatr⟩, t3, tz, tB⟩ := hLR.out.facts
          obtain ⟨_, _, _, b3, bz, bR⟩ := hatr.facts
          clear hatr
          by_cases hE : E = 0
          · subst hE
            have b3' : wr.cell? ⟨R, 3, none⟩ = some (.int .i64 0) := b3
            clear b3
            by_cases hlt : j < c
            · have hlt' : (j : Int) < (c : Int) := by omega
              have dj : decide ((j : Int) < (c : Int)) = true := by simpa using hlt'
              obtain ⟨p2, m2, g4, g5, g6, hN⟩ := hLR.out.next hlt (by omega) HP.out.2.2
              have HN := Lib.hid hN
              clear hN
              by_cases hbd : (j : Int) = bd
              · have ei : (((j : Int)) == bd) = true := beq_iff_eq.2 hbd
                have HC : Hid (Calls Try.prog 32 #[.pointer (some ⟨R, 0, none⟩), .int .i64 (V + 1), .int .i64 ((b : Int) + 1)] wr.drew (RtPost R s (rdT s d (b + (bindK k j).toNat) p2 m2) wr.drew)) := Lib.hid (by
                  rw [HVV.out]
                  have hbk := bindK_nn k j
                  have hbj := HBI.out j hlt
                  have e : (((b + (bindK k j).toNat : Nat)) : Int) = (b : Int) + 1 := by omega
                  have h := HL.out (b + (bindK k j).toNat) p2 m2 wr.drew g4 g5 g6 (by have := HBD.out; omega)
                  rwa [e] at h)
                go_upto_region 37 with fail
                have hwr : IntKind.i64.wrap (V + 1) = V + 1 := IntWalk.i64_in _ (by omega)
                refine wp_region_L (fun (w' : World) => Hid True ∧ w'.cell? ⟨TB, 3, none⟩ = some v) 10 (by kernel_rfl) ?_
                have hH := (show (fun (w' : World) => Hid True ∧ w'.cell? ⟨TB, 3, none⟩ = some v) wr.drew from ⟨Lib.hid trivial, t3⟩)
                try simp only [Act.put, List.setIfInBounds_toArray, List.set_cons_zero, List.set_cons_succ]
                refine wpAnyL_take (i := 0) (v := ?_) (by simp only [List.getElem?_toArray, List.getElem?_cons_zero]; rfl) (by kernel_rfl) (by kernel_rfl) (by kernel_rfl) (by kernel_rfl) (by intro _ _ _ h; exact h) (Or.inl ⟨by rfl, ?_⟩) hH ?_
                rotate_left
                · intro w' hSw
                  obtain ⟨s0, s1⟩ := hSw
                  go_simp
                  try with_reducible rfl
                try simp only [Act.put, List.setIfInBounds_toArray, List.set_cons_zero, List.set_cons_succ]
                refine wpAnyL_take (i := 1) (v := ?_) (by simp only [List.getElem?_toArray, List.getElem?_cons_succ, List.getElem?_cons_zero]; rfl) (by kernel_rfl) (by kernel_rfl) (by kernel_rfl) (by kernel_rfl) (by intro _ _ _ h; exact h) (Or.inl ⟨by rfl, ?_⟩) hH ?_
                rotate_left
                · intro w' hSw
                  obtain ⟨s0, s1⟩ := hSw
                  go_simp
                  try with_reducible rfl
                try simp only [Act.put, List.setIfInBounds_toArray, List.set_cons_zero, List.set_cons_succ]
                refine wpAnyL_take (i := 2) (v := ?_) (by simp only [List.getElem?_toArray, List.getElem?_cons_succ, List.getElem?_cons_zero]; rfl) (by kernel_rfl) (by kernel_rfl) (by kernel_rfl) (by kernel_rfl) (by intro _ _ _ h; exact h) (Or.inl ⟨by rfl, ?_⟩) hH ?_
                rotate_left
                · intro w' hSw
                  obtain ⟨s0, s1⟩ := hSw
                  go_simp
                  try with_reducible rfl
                try simp only [Act.put, List.setIfInBounds_toArray, List.set_cons_zero, List.set_cons_succ]
                refine wpAnyL_take (i := 3) (v := ?_) (by simp only [List.getElem?_toArray, List.getElem?_cons_succ, List.getElem?_cons_zero]; rfl) (by kernel_rfl) (by kernel_rfl) (by kernel_rfl) (by kernel_rfl) (by intro _ _ _ h; exact h) (Or.inl ⟨by rfl, ?_⟩) hH ?_
                rotate_left
                · intro w' hSw
                  obtain ⟨s0, s1⟩ := hSw
                  go_simp
                  try with_reducible rfl
                try simp only [Act.put, List.setIfInBounds_toArray, List.set_cons_zero, List.set_cons_succ]
                refine wpAnyL_take (i := 4) (v := ?_) (by simp only [List.getElem?_toArray, List.getElem?_cons_succ, List.getElem?_cons_zero]; rfl) (by kernel_rfl) (by kernel_rfl) (by kernel_rfl) (by kernel_rfl) (by intro _ _ _ h; exact h) (Or.inl ⟨by rfl, ?_⟩) hH ?_
                rotate_left
                · intro w' hSw
                  obtain ⟨s0, s1⟩ := hSw
                  go_simp
                  try with_reducible rfl
                try simp only [Act.put, List.setIfInBounds_toArray, List.set_cons_zero, List.set_cons_succ]
                refine wpAnyL_take (i := 5) (v := ?_) (by simp only [List.getElem?_toArray, List.getElem?_cons_succ, List.getElem?_cons_zero]; rfl) (by kernel_rfl) (by kernel_rfl) (by kernel_rfl) (by kernel_rfl) (by intro _ _ _ h; exact h) (Or.inl ⟨by rfl, ?_⟩) hH ?_
                rotate_left
                · intro w' hSw
                  obtain ⟨s0, s1⟩ := hSw
                  go_simp
                  try with_reducible rfl
                try simp only [Act.put, List.setIfInBounds_toArray, List.set_cons_zero, List.set_cons_succ]
                refine wpAnyL_ready (rs := [6]) (by kernel_rfl) (by simp) ?_
                refine AllReadyL.cons (o := _) (by simp only [List.getElem?_toArray, List.getElem?_cons_succ, List.getElem?_cons_zero]; rfl) (fun K hK => ?_) AllReadyL.nil
                go_simp
                go_at_call 32
                refine HC.out.mono ?_
                rintro e w2 ⟨k', n', la, ln, lc, ka, kn, kc, rfl, q1, q2⟩
                obtain ⟨L2, L2a, g', cap', w3, HRUN, L3, Z3, E', HNX⟩ := HN.out w2 k' n' la ln lc ka kn kc ⟨q1.os, q1.tape, q1.output, q1.size, q1.block⟩ q2
                clear hH q1 q2
                refine hK.out _ _ ⟨Lib.hid trivial, L2⟩ (fun hH => ?_)
                clear hK K
                try simp only [Act.put, List.setIfInBounds_toArray, List.set_cons_zero, List.set_cons_succ]
                refine wpAnyL_ready (rs := [7]) (by kernel_rfl) (by simp) ?_
                refine AllReadyL.cons (o := _) (by simp only [List.getElem?_toArray, List.getElem?_cons_succ, List.getElem?_cons_zero]; rfl) (fun K hK => ?_) AllReadyL.nil
                go_simp
                clear hH
                refine hK.out _ _ ⟨Lib.hid trivial, L2a⟩ (fun hH => ?_)
                clear hK K
                try simp only [Act.put, List.setIfInBounds_toArray, List.set_cons_zero, List.set_cons_succ]
                refine wpAnyL_ready (rs := [8]) (by kernel_rfl) (by simp) ?_
                refine AllReadyL.cons (o := _) (by simp only [List.getElem?_toArray, List.getElem?_cons_succ, List.getElem?_cons_zero]; rfl) (fun K hK => ?_) AllReadyL.nil
                refine step_append (by rfl) _ _ _ (by rfl) (by rfl) (by rfl) HRUN.out ?_
                clear hH
                refine hK.out _ _ ⟨Lib.hid trivial, L3⟩ (fun hH => ?_)
                clear hK K
                try simp only [Act.put, List.setIfInBounds_toArray, List.set_cons_zero, List.set_cons_succ]
                refine wpAnyL_take (i := 9) (v := ?_) (by simp only [List.getElem?_toArray, List.getElem?_cons_succ, List.getElem?_cons_zero]; rfl) (by kernel_rfl) (by kernel_rfl) (by kernel_rfl) (by kernel_rfl) (by intro _ _ _ h; exact h) (Or.inl ⟨by rfl, ?_⟩) hH ?_
                rotate_left
                · intro w' hSw
                  obtain ⟨s0, s1⟩ := hSw
                  go_simp
                  try with_reducible rfl
                try simp only [Act.put, List.setIfInBounds_toArray, List.set_cons_zero, List.set_cons_succ]
                refine wpAnyL_last (o := _) (by kernel_rfl) (by simp only [List.getElem?_toArray, List.getElem?_cons_succ, List.getElem?_cons_zero]; rfl) (fun K hK => ?_)
                go_simp
                clear hH
                refine hK.out _ _ ?_
                clear hK K
                try simp only [Act.put, List.setIfInBounds_toArray, List.set_cons_zero, List.set_cons_succ]
                refine wpAnyL_done (by kernel_rfl) ?_ _
                go_wp2_with fail
                go_roundw
                case rel => exact ⟨j + 1, E', _, by go_num, by omega, HNX⟩
                case measure => simp [intOf]; omega
              · have ei : (((j : Int)) == bd) = false := beq_eq_false_iff_ne.2 hbd
                have HC : Hid (Calls Try.prog 32 #[.pointer (some ⟨R, 0, none⟩), .int .i64 (V + 1), .int .i64 ((b : Int))] wr.drew (RtPost R s (rdT s d (b + (bindK k j).toNat) p2 m2) wr.drew)) := Lib.hid (by
                  rw [HVV.out]
                  have hbk := bindK_nn k j
                  have hbj := HBI.out j hlt
                  have e : (((b + (bindK k j).toNat : Nat)) : Int) = (b : Int) := by omega
                  have h := HL.out (b + (bindK k j).toNat) p2 m2 wr.drew g4 g5 g6 (by have := HBD.out; omega)
                  rwa [e] at h)
                go_upto_region 37 with fail
                have hwr : IntKind.i64.wrap (V + 1) = V + 1 := IntWalk.i64_in _ (by omega)
                refine wp_region_L (fun (w' : World) => Hid True ∧ w'.cell? ⟨TB, 3, none⟩ = some v) 10 (by kernel_rfl) ?_
                have hH := (show (fun (w' : World) => Hid True ∧ w'.cell? ⟨TB, 3, none⟩ = some v) wr.drew from ⟨Lib.hid trivial, t3⟩)
                try simp only [Act.put, List.setIfInBounds_toArray, List.set_cons_zero, List.set_cons_succ]
                refine wpAnyL_take (i := 0) (v := ?_) (by simp only [List.getElem?_toArray, List.getElem?_cons_zero]; rfl) (by kernel_rfl) (by kernel_rfl) (by kernel_rfl) (by kernel_rfl) (by intro _ _ _ h; exact h) (Or.inl ⟨by rfl, ?_⟩) hH ?_
                rotate_left
                · intro w' hSw
                  obtain ⟨s0, s1⟩ := hSw
                  go_simp
                  try with_reducible rfl
                try simp only [Act.put, List.setIfInBounds_toArray, List.set_cons_zero, List.set_cons_succ]
                refine wpAnyL_take (i := 1) (v := ?_) (by simp only [List.getElem?_toArray, List.getElem?_cons_succ, List.getElem?_cons_zero]; rfl) (by kernel_rfl) (by kernel_rfl) (by kernel_rfl) (by kernel_rfl) (by intro _ _ _ h; exact h) (Or.inl ⟨by rfl, ?_⟩) hH ?_
                rotate_left
                · intro w' hSw
                  obtain ⟨s0, s1⟩ := hSw
                  go_simp
                  try with_reducible rfl
                try simp only [Act.put, List.setIfInBounds_toArray, List.set_cons_zero, List.set_cons_succ]
                refine wpAnyL_take (i := 2) (v := ?_) (by simp only [List.getElem?_toArray, List.getElem?_cons_succ, List.getElem?_cons_zero]; rfl) (by kernel_rfl) (by kernel_rfl) (by kernel_rfl) (by kernel_rfl) (by intro _ _ _ h; exact h) (Or.inl ⟨by rfl, ?_⟩) hH ?_
                rotate_left
                · intro w' hSw
                  obtain ⟨s0, s1⟩ := hSw
                  go_simp
                  try with_reducible rfl
                try simp only [Act.put, List.setIfInBounds_toArray, List.set_cons_zero, List.set_cons_succ]
                refine wpAnyL_take (i := 3) (v := ?_) (by simp only [List.getElem?_toArray, List.getElem?_cons_succ, List.getElem?_cons_zero]; rfl) (by kernel_rfl) (by kernel_rfl) (by kernel_rfl) (by kernel_rfl) (by intro _ _ _ h; exact h) (Or.inl ⟨by rfl, ?_⟩) hH ?_
                rotate_left
                · intro w' hSw
                  obtain ⟨s0, s1⟩ := hSw
                  go_simp
                  try with_reducible rfl
                try simp only [Act.put, List.setIfInBounds_toArray, List.set_cons_zero, List.set_cons_succ]
                refine wpAnyL_take (i := 4) (v := ?_) (by simp only [List.getElem?_toArray, List.getElem?_cons_succ, List.getElem?_cons_zero]; rfl) (by kernel_rfl) (by kernel_rfl) (by kernel_rfl) (by kernel_rfl) (by intro _ _ _ h; exact h) (Or.inl ⟨by rfl, ?_⟩) hH ?_
                rotate_left
                · intro w' hSw
                  obtain ⟨s0, s1⟩ := hSw
                  go_simp
                  try with_reducible rfl
                try simp only [Act.put, List.setIfInBounds_toArray, List.set_cons_zero, List.set_cons_succ]
                refine wpAnyL_take (i := 5) (v := ?_) (by simp only [List.getElem?_toArray, List.getElem?_cons_succ, List.getElem?_cons_zero]; rfl) (by kernel_rfl) (by kernel_rfl) (by kernel_rfl) (by kernel_rfl) (by intro _ _ _ h; exact h) (Or.inl ⟨by rfl, ?_⟩) hH ?_
                rotate_left
                · intro w' hSw
                  obtain ⟨s0, s1⟩ := hSw
                  go_simp
                  try with_reducible rfl
                try simp only [Act.put, List.setIfInBounds_toArray, List.set_cons_zero, List.set_cons_succ]
                refine wpAnyL_ready (rs := [6]) (by kernel_rfl) (by simp) ?_
                refine AllReadyL.cons (o := _) (by simp only [List.getElem?_toArray, List.getElem?_cons_succ, List.getElem?_cons_zero]; rfl) (fun K hK => ?_) AllReadyL.nil
                go_simp
                go_at_call 32
                refine HC.out.mono ?_
                rintro e w2 ⟨k', n', la, ln, lc, ka, kn, kc, rfl, q1, q2⟩
                obtain ⟨L2, L2a, g', cap', w3, HRUN, L3, Z3, E', HNX⟩ := HN.out w2 k' n' la ln lc ka kn kc ⟨q1.os, q1.tape, q1.output, q1.size, q1.block⟩ q2
                clear hH q1 q2
                refine hK.out _ _ ⟨Lib.hid trivial, L2⟩ (fun hH => ?_)
                clear hK K
                try simp only [Act.put, List.setIfInBounds_toArray, List.set_cons_zero, List.set_cons_succ]
                refine wpAnyL_ready (rs := [7]) (by kernel_rfl) (by simp) ?_
                refine AllReadyL.cons (o := _) (by simp only [List.getElem?_toArray, List.getElem?_cons_succ, List.getElem?_cons_zero]; rfl) (fun K hK => ?_) AllReadyL.nil
                go_simp
                clear hH
                refine hK.out _ _ ⟨Lib.hid trivial, L2a⟩ (fun hH => ?_)
                clear hK K
                try simp only [Act.put, List.setIfInBounds_toArray, List.set_cons_zero, List.set_cons_succ]
                refine wpAnyL_ready (rs := [8]) (by kernel_rfl) (by simp) ?_
                refine AllReadyL.cons (o := _) (by simp only [List.getElem?_toArray, List.getElem?_cons_succ, List.getElem?_cons_zero]; rfl) (fun K hK => ?_) AllReadyL.nil
                refine step_append (by rfl) _ _ _ (by rfl) (by rfl) (by rfl) HRUN.out ?_
                clear hH
                refine hK.out _ _ ⟨Lib.hid trivial, L3⟩ (fun hH => ?_)
                clear hK K
                try simp only [Act.put, List.setIfInBounds_toArray, List.set_cons_zero, List.set_cons_succ]
                refine wpAnyL_take (i := 9) (v := ?_) (by simp only [List.getElem?_toArray, List.getElem?_cons_succ, List.getElem?_cons_zero]; rfl) (by kernel_rfl) (by kernel_rfl) (by kernel_rfl) (by kernel_rfl) (by intro _ _ _ h; exact h) (Or.inl ⟨by rfl, ?_⟩) hH ?_
                rotate_left
                · intro w' hSw
                  obtain ⟨s0, s1⟩ := hSw
                  go_simp
                  try with_reducible rfl
                try simp only [Act.put, List.setIfInBounds_toArray, List.set_cons_zero, List.set_cons_succ]
                refine wpAnyL_last (o := _) (by kernel_rfl) (by simp only [List.getElem?_toArray, List.getElem?_cons_succ, List.getElem?_cons_zero]; rfl) (fun K hK => ?_)
                go_simp
                clear hH
                refine hK.out _ _ ?_
                clear hK K
                try simp only [Act.put, List.setIfInBounds_toArray, List.set_cons_zero, List.set_cons_succ]
                refine wpAnyL_done (by kernel_rfl) ?_ _
                go_wp2_with fail
                go_roundw
                case rel => exact ⟨j + 1, E', _, by go_num, by omega, HNX⟩
                case measure => simp [intOf]; omega
            · have dj : decide ((j : Int) < (c : Int)) = false := by simp; omega
              obtain ⟨n, la, ln, lc, ka, kn, kc, rfl, hEnd⟩ := hLR.out.all (by omega)
              obtain ⟨⟨z0, z1, z2, z3, zz⟩, y0, y1, y2, y3⟩ := hEnd.facts
              have HF := Lib.hid (rt_fin hEnd HP.out.2.2)
              clear hEnd hLR
              go_wp2_with fail
              refine bodyPost_ret (v := .agg #[.int .i64 k, .int .i64 n, .slice la ln lc, .slice ka kn kc]) (by simp [results, Try.results32, go_sem, z0, z1, z2, z3]) rfl ?_
              exact HF.out
          · have bE : ((E : Int) == 0) = false := beq_eq_false_iff_ne.2 (by omega)
            by_cases hlt : (j : Int) < (c : Int)
            · have dj : decide ((j : Int) < (c : Int)) = true := by simpa using hlt
              obtain ⟨n, la, ln, lc, ka, kn, kc, rfl, hEnd⟩ := hLR.out.err hE
              obtain ⟨⟨z0, z1, z2, z3, zz⟩, y0, y1, y2, y3⟩ := hEnd.facts
              have HF := Lib.hid (rt_fin hEnd HP.out.2.2)
              clear hEnd hLR
              go_wp2_with fail
              refine bodyPost_ret (v := .agg #[.int .i64 k, .int .i64 n, .slice la ln lc, .slice ka kn kc]) (by simp [results, Try.results32, go_sem, z0, z1, z2, z3]) rfl ?_
              exact HF.out
            · have dj : decide ((j : Int) < (c : Int)) = false := by simpa using hlt
              obtain ⟨n, la, ln, lc, ka, kn, kc, rfl, hEnd⟩ := hLR.out.err hE
              obtain ⟨⟨z0, z1, z2, z3, zz⟩, y0, y1, y2, y3⟩ := hEnd.facts
              have HF := Lib.hid (rt_fin hEnd HP.out.2.2)
              clear hEnd hLR
              go_wp2_with fail
              refine bodyPost_ret (v := .agg #[.int .i64 k, .int .i64 n, .slice la ln lc, .slice ka kn kc]) (by simp [results, Try.results32, go_sem, z0, z1, z2, z3]) rfl ?_
              exact HF.out
end Go.Proofs.Ythnkoamabfaioaa
