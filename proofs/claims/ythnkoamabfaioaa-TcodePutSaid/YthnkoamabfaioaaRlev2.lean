/- The contract of the document's own reader's level: what the recursive reader of bytes tells; an error lies in the reader's block. -/
import Derived.Test.YthnkoamabfaioaaRlev
import Derived.Test.YthnkoamabfaioaaStep
import Derived.Deep.LoopGhost
import Derived.Deep.DeepCutAuto
import Derived.Deep.RegionLaw
import Derived.IntWalk
import Derived.RangeFuncBox
namespace Go.Proofs.Ythnkoamabfaioaa
open Go.RowKit

set_option maxRecDepth 100000 in
set_option maxHeartbeats 8000000 in
theorem rllevel_any (R : Nat) (s : ByteArray) (hs : s.size ≤ maxLen) : ∀ d : Nat, d ≤ 12 → RvAny R s d := by
  intro d
  induction d with
  | zero =>
    intro _ p l w hat hp hl
    obtain ⟨c0, c1, c2, c3, fz, hR⟩ := hat.facts
    have hne : R ≠ w.heap.size := by omega
    have HE : Hid (RvPost R s (.no 2) w (.returned (.agg #[.int .i64 0, .int .i64 0, .slice none 0 0])) ((w.setCell ⟨R, 3, none⟩ (.int .i64 2)).alloc (.cells #[.int .i64 0, .int .i64 0, .slice none 0 0] 33))) := Lib.hid ⟨0, 0, none, 0, 0, rfl, Only.after (Only.set _ _ _ _) (Only.alloc _ _ _), p, _, (heap_old _ _ (by simpa using hR)).trans (hat.set3 2)⟩
    show Calls Try.prog 80 #[.pointer (some ⟨R, 0, none⟩), .int .i64 12] w _
    go_enter Try.func80, Try.ntmps80
    go_wp2_with fail
    refine bodyPost_ret (v := .agg #[.int .i64 0, .int .i64 0, .slice none 0 0]) (by simp [results, Try.results80, go_sem]) rfl ?_
    exact HE.out
  | succ d ih =>
    intro hd p l w hat hp hl
    have HL : Hid (RvAny R s d) := Lib.hid (ih (by omega))
    clear ih
    obtain ⟨V, hV⟩ : ∃ V : Int, V = 12 - ((d + 1 : Nat) : Int) := ⟨_, rfl⟩
    rw [← hV]
    have hV1 : 0 ≤ V := by omega
    have hV2 : V ≤ 11 := by omega
    have HVV : Hid (V + 1 = 12 - ((d : Nat) : Int)) := Lib.hid (by omega)
    have dv : decide (12 ≤ V) = false := by simp; omega
    clear hV
    obtain ⟨c0, c1, c2, c3, fz, hR⟩ := hat.facts
    have hne : R ≠ w.heap.size := by omega
    by_cases hl0 : l = 0
    · rw [hl0, rdL_none]
      have hm : ((100 - l : Nat) : Int) = 100 := by omega
      rw [hm] at c2
      have HE : Hid (RvPost R s (.no 2) w (.returned (.agg #[.int .i64 0, .int .i64 0, .slice none 0 0])) ((w.setCell ⟨R, 3, none⟩ (.int .i64 2)).alloc (.cells #[.int .i64 0, .int .i64 0, .slice none 0 0] 33))) := Lib.hid ⟨0, 0, none, 0, 0, rfl, Only.after (Only.set _ _ _ _) (Only.alloc _ _ _), p, _, (heap_old _ _ (by simpa using hR)).trans (hat.set3 2)⟩
      clear hl0 hm
      go_enter Try.func80, Try.ntmps80
      go_wp2_with fail
      refine bodyPost_ret (v := .agg #[.int .i64 0, .int .i64 0, .slice none 0 0]) (by simp [results, Try.results80, go_sem]) rfl ?_
      exact HE.out
    · have hm : ((100 - l : Nat) : Int) = 100 - (l : Int) := by omega
      rw [hm] at c2
      have dl : decide (100 ≤ 100 - (l : Int)) = false := by simp; omega
      have hl1 : 1 ≤ l := by omega
      have HA0 : Hid (RrAt ((w.setCell ⟨R, 2, none⟩ (.int .i64 (100 - (l : Int) + 1))).alloc (.cells #[.int .i64 0, .int .i64 0, .slice none 0 0] 33)) R s p (100 - (l - 1)) 0) := Lib.hid (by
        have h0 := hat.set2 (100 - (l - 1))
        rw [show ((100 - (l - 1) : Nat) : Int) = 100 - (l : Int) + 1 by omega] at h0
        exact (heap_old _ _ (by simpa using hR)).trans h0)
      have HAFT : Hid (∀ w1 : World, ((w.setCell ⟨R, 2, none⟩ (.int .i64 (100 - (l : Int) + 1))).alloc (.cells #[.int .i64 0, .int .i64 0, .slice none 0 0] 33)).grownBy w1 (some R) → ZeroAt w1 w.heap.size ∧ w.grownBy w1 (some R) ∧ w.heap.size < w1.heap.size) := Lib.hid (by
        intro w1 h1
        have e0 := heap_new (w.setCell ⟨R, 2, none⟩ (.int .i64 (100 - (l : Int) + 1))) (.cells #[.int .i64 0, .int .i64 0, .slice none 0 0] 33)
        rw [show (w.setCell ⟨R, 2, none⟩ (.int .i64 (100 - (l : Int) + 1))).heap.size = w.heap.size by simp] at e0
        have e1 := (Only.block h1 (b := w.heap.size) (by simp) (by omega)).trans e0
        exact ⟨e1, Only.after (Only.after (Only.set _ _ _ _) (Only.alloc _ _ _)) h1, lt_of_block e1⟩)
      clear hm
      have hl2 : l - 1 ≤ 100 := by omega
      rcases num_two s p with hn | ⟨k, q, hn, hq⟩
      · rw [rdL_num hl0 hn]
        have HN := Lib.hid (fun (W : World) (h : RrAt W R s p (100 - (l - 1)) 0) => rlnum_no R s p (100 - (l - 1)) _ W h hs hp rfl hn)
        generalize (num s p).2.2 = er at HN hn ⊢
        have her : ((er : Int) == 0) = false := beq_eq_false_iff_ne.2 (by omega)
        clear hn hl0 hat
        go_enter Try.func80, Try.ntmps80
        go_wp2_with fail
        refine (HN.out _ HA0.out).mono ?_
        rintro e w1 ⟨rfl, hat1, hg1⟩
        obtain ⟨hZ1, hg1', hz1⟩ := HAFT.out w1 hg1
        obtain ⟨_, _, _, a3, az, aR⟩ := hat1.facts
        have hRw1 : R ≠ w1.heap.size := by omega
        have HE : Hid (LpEnd w R s w1.heap.size (.no er) 0 0 none 0 0 (w1.alloc (.cells #[.int .i64 0, .int .i64 0, .slice none 0 0] 33))) := Lib.hid ⟨(heap_old _ _ (by omega)).trans hZ1, heap_new _ _, Only.after hg1' (Only.alloc _ _ _), ⟨_, _, (heap_old _ _ aR).trans hat1⟩, hz1⟩
        clear hZ1 hg1' hg1 hat1
        go_wp2_with fail
        go_loopw [8] (fun i wr => i = .int .i64 0 ∧ Hid (LpEnd w R s w1.heap.size (.no er) 0 0 none 0 0 wr)) (fun _ _ => 0)
        case atStart => exact ⟨rfl, HE⟩
        case round =>
          obtain ⟨rfl, hE⟩ := hrel
          obtain ⟨n0, n1, n2, nz, m0, m1, m2⟩ := hE.out.facts
          have HF := Lib.hid (rv_fin hE.out hR)
          clear hE
          go_wp2_with fail
          refine bodyPost_ret (v := .agg #[.int .i64 0, .int .i64 0, .slice none 0 0]) (by simp [results, Try.results80, go_sem, n0, n1, n2]) rfl ?_
          exact HF.out
      · rw [rdL_kind hl0 hn]
        clear hl0 hat
        by_cases k1 : k = 1
        · subst k1
          rw [rdK_1]
          have HN : Hid (∀ (W : World), RrAt W R s p (100 - (l - 1)) 0 → Calls Try.prog 87 #[.pointer (some ⟨R, 0, none⟩)] W fun e w' => e = .returned (.int .i64 1) ∧ RrAt w' R s q (100 - (l - 1)) 0 ∧ W.grownBy w' (some R)) := Lib.hid (fun W h => rlnum_ok R s p (100 - (l - 1)) 1 q W h hs hp hn)
          clear hn
          go_enter Try.func80, Try.ntmps80
          go_wp2_with fail
          refine (HN.out _ HA0.out).mono ?_
          rintro e w1 ⟨rfl, hat1, hg1⟩
          obtain ⟨hZ1, hg1', hz1⟩ := HAFT.out w1 hg1
          obtain ⟨_, _, _, a3, az, aR⟩ := hat1.facts
          have hRw1 : R ≠ w1.heap.size := by omega
          have a3' : w1.cell? ⟨R, 3, none⟩ = some (.int .i64 0) := a3
          clear a3
          have HE : Hid (LpEnd w R s w1.heap.size (.ok 1 0 .nil q (l - 1)) 1 0 none 0 0 (w1.alloc (.cells #[.int .i64 1, .int .i64 0, .slice none 0 0] 33))) := Lib.hid ⟨(heap_old _ _ (by omega)).trans hZ1, heap_new _ _, Only.after hg1' (Only.alloc _ _ _), ⟨rfl, rfl, rfl, SlIn.none _ _, (heap_old _ _ aR).trans hat1⟩, hz1⟩
          clear hZ1 hg1' hg1 hat1
          go_wp2_with fail
          go_loopw [8] (fun i wr => i = .int .i64 0 ∧ Hid (LpEnd w R s w1.heap.size (.ok 1 0 .nil q (l - 1)) 1 0 none 0 0 wr)) (fun _ _ => 0)
          case atStart => exact ⟨rfl, HE⟩
          case round =>
            obtain ⟨rfl, hE⟩ := hrel
            obtain ⟨n0, n1, n2, nz, m0, m1, m2⟩ := hE.out.facts
            have HF := Lib.hid (rv_fin hE.out hR)
            clear hE
            go_wp2_with fail
            refine bodyPost_ret (v := .agg #[.int .i64 1, .int .i64 0, .slice none 0 0]) (by simp [results, Try.results80, go_sem, n0, n1, n2]) rfl ?_
            exact HF.out
        by_cases k2 : k = 2
        · subst k2
          rw [rdK_2]
          obtain ⟨r, hr⟩ : ∃ r, (rows (rdL s d) 1 q (l - 1)).wrap 2 = r := ⟨_, rfl⟩
          rw [hr]
          have HRR := Lib.hid hr
          clear hr
          have HN : Hid (∀ (W : World), RrAt W R s p (100 - (l - 1)) 0 → Calls Try.prog 87 #[.pointer (some ⟨R, 0, none⟩)] W fun e w' => e = .returned (.int .i64 2) ∧ RrAt w' R s q (100 - (l - 1)) 0 ∧ W.grownBy w' (some R)) := Lib.hid (fun W h => rlnum_ok R s p (100 - (l - 1)) 2 q W h hs hp hn)
          clear hn
          go_enter Try.func80, Try.ntmps80
          go_wp2_with fail
          refine (HN.out _ HA0.out).mono ?_
          rintro e w1 ⟨rfl, hat1, hg1⟩
          obtain ⟨hZ1, hg1', hz1⟩ := HAFT.out w1 hg1
          obtain ⟨_, _, _, a3, az, aR⟩ := hat1.facts
          have hRw1 : R ≠ w1.heap.size := by omega
          have a3' : w1.cell? ⟨R, 3, none⟩ = some (.int .i64 0) := a3
          clear a3
          have HS : Hid (LpR w R s w1.heap.size r 2 d 1 0 0 (.slice none 0 0) (w1.alloc (.cells #[.int .i64 2, .int .i64 0, .slice none 0 0] 33))) := Lib.hid ⟨[], (heap_old _ _ (by omega)).trans hZ1, heap_new _ _, World.ownsRow_nil _ _ _ _, Only.after hg1' (Only.alloc _ _ _), hz1, .inr ⟨rfl, .nil, q, l - 1, rfl, by rw [Rs.prep_nil]; exact HRR.out.symm, rfl, (heap_old _ _ aR).trans hat1, hq, hl2⟩⟩
          clear hZ1 hg1' hg1 hat1
          go_wp2_with fail
          go_loopw [8] (fun i wr => ∃ (j E : Nat) (v : Value), i = .int .i64 j ∧ j ≤ 1 ∧ Hid (LpR w R s w1.heap.size r 2 d 1 j E v wr)) (fun i _ => 1 - (intOf i).toNat)
          case atStart => exact ⟨0, 0, _, rfl, by omega, HS⟩
          case round =>
            obtain ⟨j, E, v, rfl, hj, hLR⟩ := hrel
            obtain ⟨⟨p', m', hatr⟩, l2, lz, lB⟩ := hLR.out.facts
            obtain ⟨_, _, _, b3, bz, bR⟩ := hatr.facts
            clear hatr
            by_cases hE : E = 0
            · subst hE
              have b3' : wr.cell? ⟨R, 3, none⟩ = some (.int .i64 0) := b3
              clear b3
              by_cases hlt : j < 1
              · have hlt' : (j : Int) < 1 := by omega
                obtain ⟨xs, h0, h1, h2, h3, h4, h5⟩ := hLR.out
                rcases h5 with ⟨h5, _⟩ | ⟨_, G, p2, l2', g1, g2, g3, g4, g5, g6⟩
                · exact absurd rfl h5
                have hRLB : R ≠ w1.heap.size := hRw1
                have HC : Hid (Calls Try.prog 80 #[.pointer (some ⟨R, 0, none⟩), .int .i64 (V + 1)] wr.drew (RvPost R s (rdL s d p2 l2') wr.drew)) := Lib.hid (by rw [HVV.out]; exact HL.out p2 l2' wr.drew g4 g5 g6)
                have HAP : Hid (∀ (w2 : World) (k' n' : Int) (x' : Option Addr) (ln c' : Nat), wr.drew.grownBy w2 (some R) → RvIs R s (rdL s d p2 l2') wr.drew.heap.size w2 k' n' x' ln c' →
                    w2.cell? ⟨w1.heap.size, 2, none⟩ = some v ∧ w1.heap.size < w2.heap.size ∧ ∃ g' cap' w3, (Builtin.append_ #[26, 26] 26 #[v, .slice (some ⟨w2.heap.size, 0, none⟩) 1 1]).run Try.prog (w2.alloc (.cells #[.int .i64 k', .int .i64 n', .slice x' ln c'] 33)) = .ok (.slice (some ⟨g', 0, none⟩) (j + 1) cap') w3 ∧
                      w3.cell? ⟨w1.heap.size, 2, none⟩ = some v ∧ (∀ o, w3.frozen? ⟨w1.heap.size, o, none⟩ = false) ∧ ∃ E, LpR w R s w1.heap.size r 2 d 1 (j + 1) E (.slice (some ⟨g', 0, none⟩) (j + 1) cap') (w3.setCell ⟨w1.heap.size, 2, none⟩ (.slice (some ⟨g', 0, none⟩) (j + 1) cap'))) := Lib.hid (by
                  intro w2 k' n' x' ln c' q0 q2
                  have q1 : wr.grownBy w2 (some R) := ⟨q0.os, q0.tape, q0.output, q0.size, q0.block⟩
                  have e1 := Only.block q1 lB (Ne.symm hRLB)
                  have o2 : w2.ownsRow (w1.heap.size + 1) 33 3 v j xs := h2.kept q1 (by
                    cases hv : v.ownBlock with
                    | none => exact .inl rfl
                    | some g => exact .inr (fun e => by injection e with e; have := (h2.lt g hv).1; omega))
                  have hlb2 : w1.heap.size < w2.heap.size := Nat.lt_of_lt_of_le lB q1.size
                  obtain ⟨v', w3, hrun, a1, a2, a3⟩ := append_kid 26 o2 (by omega) hlb2 k' n' x' ln c'
                  obtain ⟨g', cap', rfl⟩ := ownsRow_succ a1
                  have e3 : w3.heap[w1.heap.size]? = w2.heap[w1.heap.size]? := (a2.block _ (by rw [World.size_alloc]; omega) (fun e => by have := (h2.lt _ e.symm).1; omega)).trans (heap_old _ _ hlb2)
                  refine ⟨(World.cell?_of_block (w := wr) (a := ⟨w1.heap.size, 2, none⟩) e1).trans l2, hlb2, g', cap', w3, hrun, (World.cell?_of_block (w := wr) (a := ⟨w1.heap.size, 2, none⟩) (e3.trans e1)).trans l2, fun o => (World.frozen?_of_block (w := wr) (a := ⟨w1.heap.size, o, none⟩) (e3.trans e1)).trans (lz o), ?_⟩
                  exact LpR.next hlt hR h0 h1 h2 h3 h4 g1 g2 g3 g5 g6 q1 q2 a1 a2 a3)
                clear h0 h1 h2 h3 h4 g1 g2 g3 g4 g5 g6
                go_wp2_with fail
                have hwr : IntKind.i64.wrap (V + 1) = V + 1 := IntWalk.i64_in _ (by omega)
                go_region_law (first | (refine step_append (by rfl) _ _ _ (by rfl) (by rfl) (by rfl) HRUN.out ?_) | (go_simp; go_at_call 80; refine HC.out.mono ?_; rintro e w2 ⟨k', n', x', ln, c', rfl, q1, q2⟩; obtain ⟨L2, hlb2, g', cap', w3, hrun, L3, Z3, HNX⟩ := HAP.out w2 k' n' x' ln c' q1 q2; have HRUN := Lib.hid hrun; have L2a : (w2.alloc (.cells #[.int .i64 k', .int .i64 n', .slice x' ln c'] 33)).cell? ⟨w1.heap.size, 2, none⟩ = some v := (World.cell?_of_block (w := w2) (a := ⟨w1.heap.size, 2, none⟩) (heap_old _ _ hlb2)).trans L2; clear hrun q1 q2))
                all_goals
                  obtain ⟨E', hE'⟩ := HNX
                  have HE' := Lib.hid hE'
                  clear hE' hwr
                  go_wp2_with fail
                  go_roundw
                  case rel => exact ⟨j + 1, E', _, by go_num, by omega, HE'⟩
                  case measure => simp [intOf]; omega
              · have hlt' : ¬ (j : Int) < 1 := by omega
                have dj : decide ((j : Int) < 1) = false := by simpa using hlt'
                obtain ⟨x, ln, cc, rfl, hEnd⟩ := hLR.out.all (by omega)
                obtain ⟨n0, n1, n2, nz, m0, m1, m2⟩ := hEnd.facts
                have HF := Lib.hid (rv_fin hEnd hR)
                clear hEnd hLR
                go_wp2_with fail
                refine bodyPost_ret (v := .agg #[.int .i64 2, .int .i64 0, .slice x ln cc]) (by simp [results, Try.results80, go_sem, n0, n1, n2]) rfl ?_
                exact HF.out
            · have bE : ((E : Int) == 0) = false := beq_eq_false_iff_ne.2 (by omega)
              obtain ⟨x, ln, cc, rfl, hEnd⟩ := hLR.out.err hE
              obtain ⟨n0, n1, n2, nz, m0, m1, m2⟩ := hEnd.facts
              have HF := Lib.hid (rv_fin hEnd hR)
              clear hEnd hLR hE
              by_cases hlt : (j : Int) < 1
              · have dj : decide ((j : Int) < 1) = true := by simpa using hlt
                go_wp2_with fail
                refine bodyPost_ret (v := .agg #[.int .i64 2, .int .i64 0, .slice x ln cc]) (by simp [results, Try.results80, go_sem, n0, n1, n2]) rfl ?_
                exact HF.out
              · have dj : decide ((j : Int) < 1) = false := by simpa using hlt
                go_wp2_with fail
                refine bodyPost_ret (v := .agg #[.int .i64 2, .int .i64 0, .slice x ln cc]) (by simp [results, Try.results80, go_sem, n0, n1, n2]) rfl ?_
                exact HF.out
        by_cases k3 : k = 3
        · subst k3
          rw [rdK_3]
          obtain ⟨r, hr⟩ : ∃ r, (rows (rdL s d) 2 q (l - 1)).wrap 3 = r := ⟨_, rfl⟩
          rw [hr]
          have HRR := Lib.hid hr
          clear hr
          have HN : Hid (∀ (W : World), RrAt W R s p (100 - (l - 1)) 0 → Calls Try.prog 87 #[.pointer (some ⟨R, 0, none⟩)] W fun e w' => e = .returned (.int .i64 3) ∧ RrAt w' R s q (100 - (l - 1)) 0 ∧ W.grownBy w' (some R)) := Lib.hid (fun W h => rlnum_ok R s p (100 - (l - 1)) 3 q W h hs hp hn)
          clear hn
          go_enter Try.func80, Try.ntmps80
          go_wp2_with fail
          refine (HN.out _ HA0.out).mono ?_
          rintro e w1 ⟨rfl, hat1, hg1⟩
          obtain ⟨hZ1, hg1', hz1⟩ := HAFT.out w1 hg1
          obtain ⟨_, _, _, a3, az, aR⟩ := hat1.facts
          have hRw1 : R ≠ w1.heap.size := by omega
          have a3' : w1.cell? ⟨R, 3, none⟩ = some (.int .i64 0) := a3
          clear a3
          have HS : Hid (LpR w R s w1.heap.size r 3 d 2 0 0 (.slice none 0 0) (w1.alloc (.cells #[.int .i64 3, .int .i64 0, .slice none 0 0] 33))) := Lib.hid ⟨[], (heap_old _ _ (by omega)).trans hZ1, heap_new _ _, World.ownsRow_nil _ _ _ _, Only.after hg1' (Only.alloc _ _ _), hz1, .inr ⟨rfl, .nil, q, l - 1, rfl, by rw [Rs.prep_nil]; exact HRR.out.symm, rfl, (heap_old _ _ aR).trans hat1, hq, hl2⟩⟩
          clear hZ1 hg1' hg1 hat1
          go_wp2_with fail
          go_loopw [8] (fun i wr => ∃ (j E : Nat) (v : Value), i = .int .i64 j ∧ j ≤ 2 ∧ Hid (LpR w R s w1.heap.size r 3 d 2 j E v wr)) (fun i _ => 2 - (intOf i).toNat)
          case atStart => exact ⟨0, 0, _, rfl, by omega, HS⟩
          case round =>
            obtain ⟨j, E, v, rfl, hj, hLR⟩ := hrel
            obtain ⟨⟨p', m', hatr⟩, l2, lz, lB⟩ := hLR.out.facts
            obtain ⟨_, _, _, b3, bz, bR⟩ := hatr.facts
            clear hatr
            by_cases hE : E = 0
            · subst hE
              have b3' : wr.cell? ⟨R, 3, none⟩ = some (.int .i64 0) := b3
              clear b3
              by_cases hlt : j < 2
              · have hlt' : (j : Int) < 2 := by omega
                obtain ⟨xs, h0, h1, h2, h3, h4, h5⟩ := hLR.out
                rcases h5 with ⟨h5, _⟩ | ⟨_, G, p2, l2', g1, g2, g3, g4, g5, g6⟩
                · exact absurd rfl h5
                have hRLB : R ≠ w1.heap.size := hRw1
                have HC : Hid (Calls Try.prog 80 #[.pointer (some ⟨R, 0, none⟩), .int .i64 (V + 1)] wr.drew (RvPost R s (rdL s d p2 l2') wr.drew)) := Lib.hid (by rw [HVV.out]; exact HL.out p2 l2' wr.drew g4 g5 g6)
                have HAP : Hid (∀ (w2 : World) (k' n' : Int) (x' : Option Addr) (ln c' : Nat), wr.drew.grownBy w2 (some R) → RvIs R s (rdL s d p2 l2') wr.drew.heap.size w2 k' n' x' ln c' →
                    w2.cell? ⟨w1.heap.size, 2, none⟩ = some v ∧ w1.heap.size < w2.heap.size ∧ ∃ g' cap' w3, (Builtin.append_ #[26, 26] 26 #[v, .slice (some ⟨w2.heap.size, 0, none⟩) 1 1]).run Try.prog (w2.alloc (.cells #[.int .i64 k', .int .i64 n', .slice x' ln c'] 33)) = .ok (.slice (some ⟨g', 0, none⟩) (j + 1) cap') w3 ∧
                      w3.cell? ⟨w1.heap.size, 2, none⟩ = some v ∧ (∀ o, w3.frozen? ⟨w1.heap.size, o, none⟩ = false) ∧ ∃ E, LpR w R s w1.heap.size r 3 d 2 (j + 1) E (.slice (some ⟨g', 0, none⟩) (j + 1) cap') (w3.setCell ⟨w1.heap.size, 2, none⟩ (.slice (some ⟨g', 0, none⟩) (j + 1) cap'))) := Lib.hid (by
                  intro w2 k' n' x' ln c' q0 q2
                  have q1 : wr.grownBy w2 (some R) := ⟨q0.os, q0.tape, q0.output, q0.size, q0.block⟩
                  have e1 := Only.block q1 lB (Ne.symm hRLB)
                  have o2 : w2.ownsRow (w1.heap.size + 1) 33 3 v j xs := h2.kept q1 (by
                    cases hv : v.ownBlock with
                    | none => exact .inl rfl
                    | some g => exact .inr (fun e => by injection e with e; have := (h2.lt g hv).1; omega))
                  have hlb2 : w1.heap.size < w2.heap.size := Nat.lt_of_lt_of_le lB q1.size
                  obtain ⟨v', w3, hrun, a1, a2, a3⟩ := append_kid 26 o2 (by omega) hlb2 k' n' x' ln c'
                  obtain ⟨g', cap', rfl⟩ := ownsRow_succ a1
                  have e3 : w3.heap[w1.heap.size]? = w2.heap[w1.heap.size]? := (a2.block _ (by rw [World.size_alloc]; omega) (fun e => by have := (h2.lt _ e.symm).1; omega)).trans (heap_old _ _ hlb2)
                  refine ⟨(World.cell?_of_block (w := wr) (a := ⟨w1.heap.size, 2, none⟩) e1).trans l2, hlb2, g', cap', w3, hrun, (World.cell?_of_block (w := wr) (a := ⟨w1.heap.size, 2, none⟩) (e3.trans e1)).trans l2, fun o => (World.frozen?_of_block (w := wr) (a := ⟨w1.heap.size, o, none⟩) (e3.trans e1)).trans (lz o), ?_⟩
                  exact LpR.next hlt hR h0 h1 h2 h3 h4 g1 g2 g3 g5 g6 q1 q2 a1 a2 a3)
                clear h0 h1 h2 h3 h4 g1 g2 g3 g4 g5 g6
                go_wp2_with fail
                have hwr : IntKind.i64.wrap (V + 1) = V + 1 := IntWalk.i64_in _ (by omega)
                go_region_law (first | (refine step_append (by rfl) _ _ _ (by rfl) (by rfl) (by rfl) HRUN.out ?_) | (go_simp; go_at_call 80; refine HC.out.mono ?_; rintro e w2 ⟨k', n', x', ln, c', rfl, q1, q2⟩; obtain ⟨L2, hlb2, g', cap', w3, hrun, L3, Z3, HNX⟩ := HAP.out w2 k' n' x' ln c' q1 q2; have HRUN := Lib.hid hrun; have L2a : (w2.alloc (.cells #[.int .i64 k', .int .i64 n', .slice x' ln c'] 33)).cell? ⟨w1.heap.size, 2, none⟩ = some v := (World.cell?_of_block (w := w2) (a := ⟨w1.heap.size, 2, none⟩) (heap_old _ _ hlb2)).trans L2; clear hrun q1 q2))
                all_goals
                  obtain ⟨E', hE'⟩ := HNX
                  have HE' := Lib.hid hE'
                  clear hE' hwr
                  go_wp2_with fail
                  go_roundw
                  case rel => exact ⟨j + 1, E', _, by go_num, by omega, HE'⟩
                  case measure => simp [intOf]; omega
              · have hlt' : ¬ (j : Int) < 2 := by omega
                have dj : decide ((j : Int) < 2) = false := by simpa using hlt'
                obtain ⟨x, ln, cc, rfl, hEnd⟩ := hLR.out.all (by omega)
                obtain ⟨n0, n1, n2, nz, m0, m1, m2⟩ := hEnd.facts
                have HF := Lib.hid (rv_fin hEnd hR)
                clear hEnd hLR
                go_wp2_with fail
                refine bodyPost_ret (v := .agg #[.int .i64 3, .int .i64 0, .slice x ln cc]) (by simp [results, Try.results80, go_sem, n0, n1, n2]) rfl ?_
                exact HF.out
            · have bE : ((E : Int) == 0) = false := beq_eq_false_iff_ne.2 (by omega)
              obtain ⟨x, ln, cc, rfl, hEnd⟩ := hLR.out.err hE
              obtain ⟨n0, n1, n2, nz, m0, m1, m2⟩ := hEnd.facts
              have HF := Lib.hid (rv_fin hEnd hR)
              clear hEnd hLR hE
              by_cases hlt : (j : Int) < 2
              · have dj : decide ((j : Int) < 2) = true := by simpa using hlt
                go_wp2_with fail
                refine bodyPost_ret (v := .agg #[.int .i64 3, .int .i64 0, .slice x ln cc]) (by simp [results, Try.results80, go_sem, n0, n1, n2]) rfl ?_
                exact HF.out
              · have dj : decide ((j : Int) < 2) = false := by simpa using hlt
                go_wp2_with fail
                refine bodyPost_ret (v := .agg #[.int .i64 3, .int .i64 0, .slice x ln cc]) (by simp [results, Try.results80, go_sem, n0, n1, n2]) rfl ?_
                exact HF.out
        by_cases k4 : k = 4
        · subst k4
          rw [rdK_4]
          obtain ⟨r, hr⟩ : ∃ r, (rows (rdL s d) 2 q (l - 1)).wrap 4 = r := ⟨_, rfl⟩
          rw [hr]
          have HRR := Lib.hid hr
          clear hr
          have HN : Hid (∀ (W : World), RrAt W R s p (100 - (l - 1)) 0 → Calls Try.prog 87 #[.pointer (some ⟨R, 0, none⟩)] W fun e w' => e = .returned (.int .i64 4) ∧ RrAt w' R s q (100 - (l - 1)) 0 ∧ W.grownBy w' (some R)) := Lib.hid (fun W h => rlnum_ok R s p (100 - (l - 1)) 4 q W h hs hp hn)
          clear hn
          go_enter Try.func80, Try.ntmps80
          go_wp2_with fail
          refine (HN.out _ HA0.out).mono ?_
          rintro e w1 ⟨rfl, hat1, hg1⟩
          obtain ⟨hZ1, hg1', hz1⟩ := HAFT.out w1 hg1
          obtain ⟨_, _, _, a3, az, aR⟩ := hat1.facts
          have hRw1 : R ≠ w1.heap.size := by omega
          have a3' : w1.cell? ⟨R, 3, none⟩ = some (.int .i64 0) := a3
          clear a3
          have HS : Hid (LpR w R s w1.heap.size r 4 d 2 0 0 (.slice none 0 0) (w1.alloc (.cells #[.int .i64 4, .int .i64 0, .slice none 0 0] 33))) := Lib.hid ⟨[], (heap_old _ _ (by omega)).trans hZ1, heap_new _ _, World.ownsRow_nil _ _ _ _, Only.after hg1' (Only.alloc _ _ _), hz1, .inr ⟨rfl, .nil, q, l - 1, rfl, by rw [Rs.prep_nil]; exact HRR.out.symm, rfl, (heap_old _ _ aR).trans hat1, hq, hl2⟩⟩
          clear hZ1 hg1' hg1 hat1
          go_wp2_with fail
          go_loopw [8] (fun i wr => ∃ (j E : Nat) (v : Value), i = .int .i64 j ∧ j ≤ 2 ∧ Hid (LpR w R s w1.heap.size r 4 d 2 j E v wr)) (fun i _ => 2 - (intOf i).toNat)
          case atStart => exact ⟨0, 0, _, rfl, by omega, HS⟩
          case round =>
            obtain ⟨j, E, v, rfl, hj, hLR⟩ := hrel
            obtain ⟨⟨p', m', hatr⟩, l2, lz, lB⟩ := hLR.out.facts
            obtain ⟨_, _, _, b3, bz, bR⟩ := hatr.facts
            clear hatr
            by_cases hE : E = 0
            · subst hE
              have b3' : wr.cell? ⟨R, 3, none⟩ = some (.int .i64 0) := b3
              clear b3
              by_cases hlt : j < 2
              · have hlt' : (j : Int) < 2 := by omega
                obtain ⟨xs, h0, h1, h2, h3, h4, h5⟩ := hLR.out
                rcases h5 with ⟨h5, _⟩ | ⟨_, G, p2, l2', g1, g2, g3, g4, g5, g6⟩
                · exact absurd rfl h5
                have hRLB : R ≠ w1.heap.size := hRw1
                have HC : Hid (Calls Try.prog 80 #[.pointer (some ⟨R, 0, none⟩), .int .i64 (V + 1)] wr.drew (RvPost R s (rdL s d p2 l2') wr.drew)) := Lib.hid (by rw [HVV.out]; exact HL.out p2 l2' wr.drew g4 g5 g6)
                have HAP : Hid (∀ (w2 : World) (k' n' : Int) (x' : Option Addr) (ln c' : Nat), wr.drew.grownBy w2 (some R) → RvIs R s (rdL s d p2 l2') wr.drew.heap.size w2 k' n' x' ln c' →
                    w2.cell? ⟨w1.heap.size, 2, none⟩ = some v ∧ w1.heap.size < w2.heap.size ∧ ∃ g' cap' w3, (Builtin.append_ #[26, 26] 26 #[v, .slice (some ⟨w2.heap.size, 0, none⟩) 1 1]).run Try.prog (w2.alloc (.cells #[.int .i64 k', .int .i64 n', .slice x' ln c'] 33)) = .ok (.slice (some ⟨g', 0, none⟩) (j + 1) cap') w3 ∧
                      w3.cell? ⟨w1.heap.size, 2, none⟩ = some v ∧ (∀ o, w3.frozen? ⟨w1.heap.size, o, none⟩ = false) ∧ ∃ E, LpR w R s w1.heap.size r 4 d 2 (j + 1) E (.slice (some ⟨g', 0, none⟩) (j + 1) cap') (w3.setCell ⟨w1.heap.size, 2, none⟩ (.slice (some ⟨g', 0, none⟩) (j + 1) cap'))) := Lib.hid (by
                  intro w2 k' n' x' ln c' q0 q2
                  have q1 : wr.grownBy w2 (some R) := ⟨q0.os, q0.tape, q0.output, q0.size, q0.block⟩
                  have e1 := Only.block q1 lB (Ne.symm hRLB)
                  have o2 : w2.ownsRow (w1.heap.size + 1) 33 3 v j xs := h2.kept q1 (by
                    cases hv : v.ownBlock with
                    | none => exact .inl rfl
                    | some g => exact .inr (fun e => by injection e with e; have := (h2.lt g hv).1; omega))
                  have hlb2 : w1.heap.size < w2.heap.size := Nat.lt_of_lt_of_le lB q1.size
                  obtain ⟨v', w3, hrun, a1, a2, a3⟩ := append_kid 26 o2 (by omega) hlb2 k' n' x' ln c'
                  obtain ⟨g', cap', rfl⟩ := ownsRow_succ a1
                  have e3 : w3.heap[w1.heap.size]? = w2.heap[w1.heap.size]? := (a2.block _ (by rw [World.size_alloc]; omega) (fun e => by have := (h2.lt _ e.symm).1; omega)).trans (heap_old _ _ hlb2)
                  refine ⟨(World.cell?_of_block (w := wr) (a := ⟨w1.heap.size, 2, none⟩) e1).trans l2, hlb2, g', cap', w3, hrun, (World.cell?_of_block (w := wr) (a := ⟨w1.heap.size, 2, none⟩) (e3.trans e1)).trans l2, fun o => (World.frozen?_of_block (w := wr) (a := ⟨w1.heap.size, o, none⟩) (e3.trans e1)).trans (lz o), ?_⟩
                  exact LpR.next hlt hR h0 h1 h2 h3 h4 g1 g2 g3 g5 g6 q1 q2 a1 a2 a3)
                clear h0 h1 h2 h3 h4 g1 g2 g3 g4 g5 g6
                go_wp2_with fail
                have hwr : IntKind.i64.wrap (V + 1) = V + 1 := IntWalk.i64_in _ (by omega)
                go_region_law (first | (refine step_append (by rfl) _ _ _ (by rfl) (by rfl) (by rfl) HRUN.out ?_) | (go_simp; go_at_call 80; refine HC.out.mono ?_; rintro e w2 ⟨k', n', x', ln, c', rfl, q1, q2⟩; obtain ⟨L2, hlb2, g', cap', w3, hrun, L3, Z3, HNX⟩ := HAP.out w2 k' n' x' ln c' q1 q2; have HRUN := Lib.hid hrun; have L2a : (w2.alloc (.cells #[.int .i64 k', .int .i64 n', .slice x' ln c'] 33)).cell? ⟨w1.heap.size, 2, none⟩ = some v := (World.cell?_of_block (w := w2) (a := ⟨w1.heap.size, 2, none⟩) (heap_old _ _ hlb2)).trans L2; clear hrun q1 q2))
                all_goals
                  obtain ⟨E', hE'⟩ := HNX
                  have HE' := Lib.hid hE'
                  clear hE' hwr
                  go_wp2_with fail
                  go_roundw
                  case rel => exact ⟨j + 1, E', _, by go_num, by omega, HE'⟩
                  case measure => simp [intOf]; omega
              · have hlt' : ¬ (j : Int) < 2 := by omega
                have dj : decide ((j : Int) < 2) = false := by simpa using hlt'
                obtain ⟨x, ln, cc, rfl, hEnd⟩ := hLR.out.all (by omega)
                obtain ⟨n0, n1, n2, nz, m0, m1, m2⟩ := hEnd.facts
                have HF := Lib.hid (rv_fin hEnd hR)
                clear hEnd hLR
                go_wp2_with fail
                refine bodyPost_ret (v := .agg #[.int .i64 4, .int .i64 0, .slice x ln cc]) (by simp [results, Try.results80, go_sem, n0, n1, n2]) rfl ?_
                exact HF.out
            · have bE : ((E : Int) == 0) = false := beq_eq_false_iff_ne.2 (by omega)
              obtain ⟨x, ln, cc, rfl, hEnd⟩ := hLR.out.err hE
              obtain ⟨n0, n1, n2, nz, m0, m1, m2⟩ := hEnd.facts
              have HF := Lib.hid (rv_fin hEnd hR)
              clear hEnd hLR hE
              by_cases hlt : (j : Int) < 2
              · have dj : decide ((j : Int) < 2) = true := by simpa using hlt
                go_wp2_with fail
                refine bodyPost_ret (v := .agg #[.int .i64 4, .int .i64 0, .slice x ln cc]) (by simp [results, Try.results80, go_sem, n0, n1, n2]) rfl ?_
                exact HF.out
              · have dj : decide ((j : Int) < 2) = false := by simpa using hlt
                go_wp2_with fail
                refine bodyPost_ret (v := .agg #[.int .i64 4, .int .i64 0, .slice x ln cc]) (by simp [results, Try.results80, go_sem, n0, n1, n2]) rfl ?_
                exact HF.out
        by_cases k5 : k = 5
        · subst k5
          rw [rdK_5]
          have HN : Hid (∀ (W : World), RrAt W R s p (100 - (l - 1)) 0 → Calls Try.prog 87 #[.pointer (some ⟨R, 0, none⟩)] W fun e w' => e = .returned (.int .i64 5) ∧ RrAt w' R s q (100 - (l - 1)) 0 ∧ W.grownBy w' (some R)) := Lib.hid (fun W h => rlnum_ok R s p (100 - (l - 1)) 5 q W h hs hp hn)
          clear hn
          have HB0 : Hid (∀ w1 : World, RrAt w1 R s q (100 - (l - 1)) 0 → RrAt (w1.alloc (.cells #[.int .i64 5, .int .i64 0, .slice none 0 0] 33)) R s q (100 - (l - 1)) 0) := Lib.hid (fun w1 h => (heap_old _ _ (lt_of_block h)).trans h)
          have HB1 : Hid (∀ (w1 w2 : World) (E p2 : Nat) (N : Int), ZeroAt w1 w.heap.size → w.grownBy w1 (some R) → w.heap.size < w1.heap.size → (w1.alloc (.cells #[.int .i64 5, .int .i64 0, .slice none 0 0] 33)).grownBy w2 (some R) → RrAt w2 R s p2 (100 - (l - 1)) E →
              w2.heap[w1.heap.size]? = some (.cells #[.int .i64 5, .int .i64 0, .slice none 0 0] 33 (0, 0)) ∧ ZeroAt w2 w.heap.size ∧ w.grownBy w2 (some R) ∧ w1.heap.size < w2.heap.size ∧ w2.cell? ⟨R, 3, none⟩ = some (.int .i64 E) ∧
              (∀ (r : Rl) (E' : Nat), RvIs R s r (w.heap.size + 1) ((w2.setCell ⟨w1.heap.size, 1, none⟩ (.int .i64 N)).setCell ⟨R, 3, none⟩ (.int .i64 E')) 5 N none 0 0 → LpEnd w R s w1.heap.size r 5 N none 0 0 ((w2.setCell ⟨w1.heap.size, 1, none⟩ (.int .i64 N)).setCell ⟨R, 3, none⟩ (.int .i64 E'))) ∧
              (∀ (r : Rl), RvIs R s r (w.heap.size + 1) (w2.setCell ⟨w1.heap.size, 1, none⟩ (.int .i64 N)) 5 N none 0 0 → LpEnd w R s w1.heap.size r 5 N none 0 0 (w2.setCell ⟨w1.heap.size, 1, none⟩ (.int .i64 N))) ∧ RrAt (w2.setCell ⟨w1.heap.size, 1, none⟩ (.int .i64 N)) R s p2 (100 - (l - 1)) E) := Lib.hid (by
            intro w1 w2 E p2 N hz hg hlt hg2 hat2
            have hRne : R ≠ w1.heap.size := by omega
            have ne1 : w.heap.size ≠ w1.heap.size := by omega
            have ne2 : w.heap.size ≠ R := by omega
            have ne3 : w1.heap.size ≠ R := by omega
            have e1 := (Only.block hg2 (b := w1.heap.size) (by simp) (by omega)).trans (heap_new w1 _)
            have e2 : ZeroAt w2 w.heap.size := (Only.block hg2 (b := w.heap.size) (by simp; omega) (by omega)).trans ((heap_old _ _ hlt).trans hz)
            have e3 : w.grownBy w2 (some R) := Only.after (Only.after hg (Only.alloc _ _ _)) hg2
            have e4 := lt_of_block e1
            have e5 : RrAt (w2.setCell ⟨w1.heap.size, 1, none⟩ (.int .i64 N)) R s p2 (100 - (l - 1)) E := (Below.heap_setCell _ _ _ _ hRne).trans hat2
            have e6 : (w2.setCell ⟨w1.heap.size, 1, none⟩ (.int .i64 N)).heap[w1.heap.size]? = some (.cells #[.int .i64 5, .int .i64 N, .slice none 0 0] 33 (0, 0)) := by
              simp only [World.setCell, Array.getElem?_modify, if_true, e1]; rfl
            have e7 : ZeroAt (w2.setCell ⟨w1.heap.size, 1, none⟩ (.int .i64 N)) w.heap.size := (Below.heap_setCell _ _ _ _ ne1).trans e2
            have e8 : w.grownBy (w2.setCell ⟨w1.heap.size, 1, none⟩ (.int .i64 N)) (some R) := Only.past e3 (Only.set _ _ _ _) (by omega)
            refine ⟨e1, e2, e3, e4, cell_at hat2 3, fun r E' hr => ?_, fun r hr => ⟨e7, e6, e8, hr, by omega⟩, e5⟩
            exact ⟨(Below.heap_setCell _ _ _ _ ne2).trans e7, (Below.heap_setCell _ _ _ _ ne3).trans e6, Only.after e8 (Only.set _ _ _ _), hr, by omega⟩)
          rcases num_two s q with hm | ⟨n, q2, hm, hq2⟩
          · rw [rdN_no hm]
            have HM := Lib.hid (fun (W : World) (h : RrAt W R s q (100 - (l - 1)) 0) => rlnum_no R s q (100 - (l - 1)) _ W h hs hq rfl hm)
            generalize (num s q).2.2 = er at HM hm ⊢
            have her : ((er : Int) == 0) = false := beq_eq_false_iff_ne.2 (by omega)
            clear hm
            go_enter Try.func80, Try.ntmps80
            go_wp2_with fail
            refine (HN.out _ HA0.out).mono ?_
            rintro e w1 ⟨rfl, hat1, hg1⟩
            obtain ⟨hZ1, hg1', hz1⟩ := HAFT.out w1 hg1
            obtain ⟨_, _, _, a3, az, aR⟩ := hat1.facts
            have hRw1 : R ≠ w1.heap.size := by omega
            have a3' : w1.cell? ⟨R, 3, none⟩ = some (.int .i64 0) := a3
            clear a3
            have HAT1 := Lib.hid (And.intro hat1 (And.intro hZ1 hg1'))
            clear hZ1 hg1' hg1 hat1
            go_wp2_with fail
            refine (HM.out _ (HB0.out w1 HAT1.out.1)).mono ?_
            rintro e w2 ⟨rfl, hat2, hg2⟩
            obtain ⟨u1, u2, u3, u4, u5, _, u7, u8⟩ := HB1.out w1 w2 er q 0 HAT1.out.2.1 HAT1.out.2.2 hz1 hg2 hat2
            have y1 := cell_at u1 1
            have yz := free_of u1
            simp at y1
            have HE := Lib.hid (u7 (.no er) ⟨_, _, u8⟩)
            clear u1 u2 u3 u7 u8 hat2 hg2
            go_wp2_with fail
            go_loopw [8] (fun i wr => i = .int .i64 0 ∧ Hid (LpEnd w R s w1.heap.size (.no er) 5 0 none 0 0 wr)) (fun _ _ => 0)
            case atStart => exact ⟨rfl, HE⟩
            case round =>
              obtain ⟨rfl, hE⟩ := hrel
              obtain ⟨n0, n1, n2, nz, m0, m1, m2⟩ := hE.out.facts
              have HF := Lib.hid (rv_fin hE.out hR)
              clear hE
              go_wp2_with fail
              refine bodyPost_ret (v := .agg #[.int .i64 5, .int .i64 0, .slice none 0 0]) (by simp [results, Try.results80, go_sem, n0, n1, n2]) rfl ?_
              exact HF.out
          · by_cases hlim : 5 ≤ n
            · rw [rdN_big hm hlim]
              have HM := Lib.hid (fun (W : World) (h : RrAt W R s q (100 - (l - 1)) 0) => rlnum_ok R s q (100 - (l - 1)) n q2 W h hs hq hm)
              have dn : decide ((5 : Int) ≤ (n : Int)) = true := by simp; omega
              clear hm hlim
              go_enter Try.func80, Try.ntmps80
              go_wp2_with fail
              refine (HN.out _ HA0.out).mono ?_
              rintro e w1 ⟨rfl, hat1, hg1⟩
              obtain ⟨hZ1, hg1', hz1⟩ := HAFT.out w1 hg1
              obtain ⟨_, _, _, a3, az, aR⟩ := hat1.facts
              have hRw1 : R ≠ w1.heap.size := by omega
              have a3' : w1.cell? ⟨R, 3, none⟩ = some (.int .i64 0) := a3
              clear a3
              have HAT1 := Lib.hid (And.intro hat1 (And.intro hZ1 hg1'))
              clear hZ1 hg1' hg1 hat1
              go_wp2_with fail
              refine (HM.out _ (HB0.out w1 HAT1.out.1)).mono ?_
              rintro e w2 ⟨rfl, hat2, hg2⟩
              obtain ⟨u1, u2, u3, u4, u5, u6, _, u8⟩ := HB1.out w1 w2 0 q2 n HAT1.out.2.1 HAT1.out.2.2 hz1 hg2 hat2
              have y1 := cell_at u1 1
              have yz := free_of u1
              have yR := free_of hat2
              simp at y1
              have u5' : w2.cell? ⟨R, 3, none⟩ = some (.int .i64 0) := u5
              have HE := Lib.hid (u6 (.no 20) 20 ⟨_, _, u8.set3 20⟩)
              clear u1 u2 u3 u5 u6 u8 hat2 hg2
              go_wp2_with fail
              go_loopw [8] (fun i wr => i = .int .i64 0 ∧ Hid (LpEnd w R s w1.heap.size (.no 20) 5 n none 0 0 wr)) (fun _ _ => 0)
              case atStart => exact ⟨rfl, HE⟩
              case round =>
                obtain ⟨rfl, hE⟩ := hrel
                obtain ⟨n0, n1, n2, nz, m0, m1, m2⟩ := hE.out.facts
                have HF := Lib.hid (rv_fin hE.out hR)
                clear hE
                go_wp2_with fail
                refine bodyPost_ret (v := .agg #[.int .i64 5, .int .i64 n, .slice none 0 0]) (by simp [results, Try.results80, go_sem, n0, n1, n2]) rfl ?_
                exact HF.out
            · rw [rdN_ok hm hlim]
              have HM := Lib.hid (fun (W : World) (h : RrAt W R s q (100 - (l - 1)) 0) => rlnum_ok R s q (100 - (l - 1)) n q2 W h hs hq hm)
              have dn : decide ((5 : Int) ≤ (n : Int)) = false := by simp; omega
              clear hm hlim
              go_enter Try.func80, Try.ntmps80
              go_wp2_with fail
              refine (HN.out _ HA0.out).mono ?_
              rintro e w1 ⟨rfl, hat1, hg1⟩
              obtain ⟨hZ1, hg1', hz1⟩ := HAFT.out w1 hg1
              obtain ⟨_, _, _, a3, az, aR⟩ := hat1.facts
              have hRw1 : R ≠ w1.heap.size := by omega
              have a3' : w1.cell? ⟨R, 3, none⟩ = some (.int .i64 0) := a3
              clear a3
              have HAT1 := Lib.hid (And.intro hat1 (And.intro hZ1 hg1'))
              clear hZ1 hg1' hg1 hat1
              go_wp2_with fail
              refine (HM.out _ (HB0.out w1 HAT1.out.1)).mono ?_
              rintro e w2 ⟨rfl, hat2, hg2⟩
              obtain ⟨u1, u2, u3, u4, u5, _, u7, u8⟩ := HB1.out w1 w2 0 q2 n HAT1.out.2.1 HAT1.out.2.2 hz1 hg2 hat2
              have y1 := cell_at u1 1
              have yz := free_of u1
              simp at y1
              have u5' : w2.cell? ⟨R, 3, none⟩ = some (.int .i64 0) := u5
              have HE := Lib.hid (u7 (.ok 5 n .nil q2 (l - 1)) ⟨rfl, rfl, rfl, SlIn.none _ _, u8⟩)
              clear u1 u2 u3 u5 u7 u8 hat2 hg2
              go_wp2_with fail
              go_loopw [8] (fun i wr => i = .int .i64 0 ∧ Hid (LpEnd w R s w1.heap.size (.ok 5 n .nil q2 (l - 1)) 5 n none 0 0 wr)) (fun _ _ => 0)
              case atStart => exact ⟨rfl, HE⟩
              case round =>
                obtain ⟨rfl, hE⟩ := hrel
                obtain ⟨n0, n1, n2, nz, m0, m1, m2⟩ := hE.out.facts
                have HF := Lib.hid (rv_fin hE.out hR)
                clear hE
                go_wp2_with fail
                refine bodyPost_ret (v := .agg #[.int .i64 5, .int .i64 n, .slice none 0 0]) (by simp [results, Try.results80, go_sem, n0, n1, n2]) rfl ?_
                exact HF.out
        by_cases k6 : k = 6
        · subst k6
          rw [rdK_6]
          have HN : Hid (∀ (W : World), RrAt W R s p (100 - (l - 1)) 0 → Calls Try.prog 87 #[.pointer (some ⟨R, 0, none⟩)] W fun e w' => e = .returned (.int .i64 6) ∧ RrAt w' R s q (100 - (l - 1)) 0 ∧ W.grownBy w' (some R)) := Lib.hid (fun W h => rlnum_ok R s p (100 - (l - 1)) 6 q W h hs hp hn)
          clear hn
          have HB0 : Hid (∀ w1 : World, RrAt w1 R s q (100 - (l - 1)) 0 → RrAt (w1.alloc (.cells #[.int .i64 6, .int .i64 0, .slice none 0 0] 33)) R s q (100 - (l - 1)) 0) := Lib.hid (fun w1 h => (heap_old _ _ (lt_of_block h)).trans h)
          have HB1 : Hid (∀ (w1 w2 : World) (E p2 : Nat) (N : Int), ZeroAt w1 w.heap.size → w.grownBy w1 (some R) → w.heap.size < w1.heap.size → (w1.alloc (.cells #[.int .i64 6, .int .i64 0, .slice none 0 0] 33)).grownBy w2 (some R) → RrAt w2 R s p2 (100 - (l - 1)) E →
              w2.heap[w1.heap.size]? = some (.cells #[.int .i64 6, .int .i64 0, .slice none 0 0] 33 (0, 0)) ∧ ZeroAt w2 w.heap.size ∧ w.grownBy w2 (some R) ∧ w1.heap.size < w2.heap.size ∧ w2.cell? ⟨R, 3, none⟩ = some (.int .i64 E) ∧
              (∀ (r : Rl) (E' : Nat), RvIs R s r (w.heap.size + 1) ((w2.setCell ⟨w1.heap.size, 1, none⟩ (.int .i64 N)).setCell ⟨R, 3, none⟩ (.int .i64 E')) 6 N none 0 0 → LpEnd w R s w1.heap.size r 6 N none 0 0 ((w2.setCell ⟨w1.heap.size, 1, none⟩ (.int .i64 N)).setCell ⟨R, 3, none⟩ (.int .i64 E'))) ∧
              (∀ (r : Rl), RvIs R s r (w.heap.size + 1) (w2.setCell ⟨w1.heap.size, 1, none⟩ (.int .i64 N)) 6 N none 0 0 → LpEnd w R s w1.heap.size r 6 N none 0 0 (w2.setCell ⟨w1.heap.size, 1, none⟩ (.int .i64 N))) ∧ RrAt (w2.setCell ⟨w1.heap.size, 1, none⟩ (.int .i64 N)) R s p2 (100 - (l - 1)) E) := Lib.hid (by
            intro w1 w2 E p2 N hz hg hlt hg2 hat2
            have hRne : R ≠ w1.heap.size := by omega
            have ne1 : w.heap.size ≠ w1.heap.size := by omega
            have ne2 : w.heap.size ≠ R := by omega
            have ne3 : w1.heap.size ≠ R := by omega
            have e1 := (Only.block hg2 (b := w1.heap.size) (by simp) (by omega)).trans (heap_new w1 _)
            have e2 : ZeroAt w2 w.heap.size := (Only.block hg2 (b := w.heap.size) (by simp; omega) (by omega)).trans ((heap_old _ _ hlt).trans hz)
            have e3 : w.grownBy w2 (some R) := Only.after (Only.after hg (Only.alloc _ _ _)) hg2
            have e4 := lt_of_block e1
            have e5 : RrAt (w2.setCell ⟨w1.heap.size, 1, none⟩ (.int .i64 N)) R s p2 (100 - (l - 1)) E := (Below.heap_setCell _ _ _ _ hRne).trans hat2
            have e6 : (w2.setCell ⟨w1.heap.size, 1, none⟩ (.int .i64 N)).heap[w1.heap.size]? = some (.cells #[.int .i64 6, .int .i64 N, .slice none 0 0] 33 (0, 0)) := by
              simp only [World.setCell, Array.getElem?_modify, if_true, e1]; rfl
            have e7 : ZeroAt (w2.setCell ⟨w1.heap.size, 1, none⟩ (.int .i64 N)) w.heap.size := (Below.heap_setCell _ _ _ _ ne1).trans e2
            have e8 : w.grownBy (w2.setCell ⟨w1.heap.size, 1, none⟩ (.int .i64 N)) (some R) := Only.past e3 (Only.set _ _ _ _) (by omega)
            refine ⟨e1, e2, e3, e4, cell_at hat2 3, fun r E' hr => ?_, fun r hr => ⟨e7, e6, e8, hr, by omega⟩, e5⟩
            exact ⟨(Below.heap_setCell _ _ _ _ ne2).trans e7, (Below.heap_setCell _ _ _ _ ne3).trans e6, Only.after e8 (Only.set _ _ _ _), hr, by omega⟩)
          rcases num_two s q with hm | ⟨n, q2, hm, hq2⟩
          · rw [rdN_no hm]
            have HM := Lib.hid (fun (W : World) (h : RrAt W R s q (100 - (l - 1)) 0) => rlnum_no R s q (100 - (l - 1)) _ W h hs hq rfl hm)
            generalize (num s q).2.2 = er at HM hm ⊢
            have her : ((er : Int) == 0) = false := beq_eq_false_iff_ne.2 (by omega)
            clear hm
            go_enter Try.func80, Try.ntmps80
            go_wp2_with fail
            refine (HN.out _ HA0.out).mono ?_
            rintro e w1 ⟨rfl, hat1, hg1⟩
            obtain ⟨hZ1, hg1', hz1⟩ := HAFT.out w1 hg1
            obtain ⟨_, _, _, a3, az, aR⟩ := hat1.facts
            have hRw1 : R ≠ w1.heap.size := by omega
            have a3' : w1.cell? ⟨R, 3, none⟩ = some (.int .i64 0) := a3
            clear a3
            have HAT1 := Lib.hid (And.intro hat1 (And.intro hZ1 hg1'))
            clear hZ1 hg1' hg1 hat1
            go_wp2_with fail
            refine (HM.out _ (HB0.out w1 HAT1.out.1)).mono ?_
            rintro e w2 ⟨rfl, hat2, hg2⟩
            obtain ⟨u1, u2, u3, u4, u5, _, u7, u8⟩ := HB1.out w1 w2 er q 0 HAT1.out.2.1 HAT1.out.2.2 hz1 hg2 hat2
            have y1 := cell_at u1 1
            have yz := free_of u1
            simp at y1
            have HE := Lib.hid (u7 (.no er) ⟨_, _, u8⟩)
            clear u1 u2 u3 u7 u8 hat2 hg2
            go_wp2_with fail
            go_loopw [8] (fun i wr => i = .int .i64 0 ∧ Hid (LpEnd w R s w1.heap.size (.no er) 6 0 none 0 0 wr)) (fun _ _ => 0)
            case atStart => exact ⟨rfl, HE⟩
            case round =>
              obtain ⟨rfl, hE⟩ := hrel
              obtain ⟨n0, n1, n2, nz, m0, m1, m2⟩ := hE.out.facts
              have HF := Lib.hid (rv_fin hE.out hR)
              clear hE
              go_wp2_with fail
              refine bodyPost_ret (v := .agg #[.int .i64 6, .int .i64 0, .slice none 0 0]) (by simp [results, Try.results80, go_sem, n0, n1, n2]) rfl ?_
              exact HF.out
          · by_cases hlim : 10 ≤ n
            · rw [rdN_big hm hlim]
              have HM := Lib.hid (fun (W : World) (h : RrAt W R s q (100 - (l - 1)) 0) => rlnum_ok R s q (100 - (l - 1)) n q2 W h hs hq hm)
              have dn : decide ((10 : Int) ≤ (n : Int)) = true := by simp; omega
              clear hm hlim
              go_enter Try.func80, Try.ntmps80
              go_wp2_with fail
              refine (HN.out _ HA0.out).mono ?_
              rintro e w1 ⟨rfl, hat1, hg1⟩
              obtain ⟨hZ1, hg1', hz1⟩ := HAFT.out w1 hg1
              obtain ⟨_, _, _, a3, az, aR⟩ := hat1.facts
              have hRw1 : R ≠ w1.heap.size := by omega
              have a3' : w1.cell? ⟨R, 3, none⟩ = some (.int .i64 0) := a3
              clear a3
              have HAT1 := Lib.hid (And.intro hat1 (And.intro hZ1 hg1'))
              clear hZ1 hg1' hg1 hat1
              go_wp2_with fail
              refine (HM.out _ (HB0.out w1 HAT1.out.1)).mono ?_
              rintro e w2 ⟨rfl, hat2, hg2⟩
              obtain ⟨u1, u2, u3, u4, u5, u6, _, u8⟩ := HB1.out w1 w2 0 q2 n HAT1.out.2.1 HAT1.out.2.2 hz1 hg2 hat2
              have y1 := cell_at u1 1
              have yz := free_of u1
              have yR := free_of hat2
              simp at y1
              have u5' : w2.cell? ⟨R, 3, none⟩ = some (.int .i64 0) := u5
              have HE := Lib.hid (u6 (.no 20) 20 ⟨_, _, u8.set3 20⟩)
              clear u1 u2 u3 u5 u6 u8 hat2 hg2
              go_wp2_with fail
              go_loopw [8] (fun i wr => i = .int .i64 0 ∧ Hid (LpEnd w R s w1.heap.size (.no 20) 6 n none 0 0 wr)) (fun _ _ => 0)
              case atStart => exact ⟨rfl, HE⟩
              case round =>
                obtain ⟨rfl, hE⟩ := hrel
                obtain ⟨n0, n1, n2, nz, m0, m1, m2⟩ := hE.out.facts
                have HF := Lib.hid (rv_fin hE.out hR)
                clear hE
                go_wp2_with fail
                refine bodyPost_ret (v := .agg #[.int .i64 6, .int .i64 n, .slice none 0 0]) (by simp [results, Try.results80, go_sem, n0, n1, n2]) rfl ?_
                exact HF.out
            · rw [rdN_ok hm hlim]
              have HM := Lib.hid (fun (W : World) (h : RrAt W R s q (100 - (l - 1)) 0) => rlnum_ok R s q (100 - (l - 1)) n q2 W h hs hq hm)
              have dn : decide ((10 : Int) ≤ (n : Int)) = false := by simp; omega
              clear hm hlim
              go_enter Try.func80, Try.ntmps80
              go_wp2_with fail
              refine (HN.out _ HA0.out).mono ?_
              rintro e w1 ⟨rfl, hat1, hg1⟩
              obtain ⟨hZ1, hg1', hz1⟩ := HAFT.out w1 hg1
              obtain ⟨_, _, _, a3, az, aR⟩ := hat1.facts
              have hRw1 : R ≠ w1.heap.size := by omega
              have a3' : w1.cell? ⟨R, 3, none⟩ = some (.int .i64 0) := a3
              clear a3
              have HAT1 := Lib.hid (And.intro hat1 (And.intro hZ1 hg1'))
              clear hZ1 hg1' hg1 hat1
              go_wp2_with fail
              refine (HM.out _ (HB0.out w1 HAT1.out.1)).mono ?_
              rintro e w2 ⟨rfl, hat2, hg2⟩
              obtain ⟨u1, u2, u3, u4, u5, _, u7, u8⟩ := HB1.out w1 w2 0 q2 n HAT1.out.2.1 HAT1.out.2.2 hz1 hg2 hat2
              have y1 := cell_at u1 1
              have yz := free_of u1
              simp at y1
              have u5' : w2.cell? ⟨R, 3, none⟩ = some (.int .i64 0) := u5
              have HE := Lib.hid (u7 (.ok 6 n .nil q2 (l - 1)) ⟨rfl, rfl, rfl, SlIn.none _ _, u8⟩)
              clear u1 u2 u3 u5 u7 u8 hat2 hg2
              go_wp2_with fail
              go_loopw [8] (fun i wr => i = .int .i64 0 ∧ Hid (LpEnd w R s w1.heap.size (.ok 6 n .nil q2 (l - 1)) 6 n none 0 0 wr)) (fun _ _ => 0)
              case atStart => exact ⟨rfl, HE⟩
              case round =>
                obtain ⟨rfl, hE⟩ := hrel
                obtain ⟨n0, n1, n2, nz, m0, m1, m2⟩ := hE.out.facts
                have HF := Lib.hid (rv_fin hE.out hR)
                clear hE
                go_wp2_with fail
                refine bodyPost_ret (v := .agg #[.int .i64 6, .int .i64 n, .slice none 0 0]) (by simp [results, Try.results80, go_sem, n0, n1, n2]) rfl ?_
                exact HF.out
        · rw [rdK_no s _ q (l - 1) (k := k) (by omega)]
          have e1 : ((k : Int) == 1) = false := beq_eq_false_iff_ne.2 (by omega)
          have e2 : ((k : Int) == 2) = false := beq_eq_false_iff_ne.2 (by omega)
          have e3 : ((k : Int) == 3) = false := beq_eq_false_iff_ne.2 (by omega)
          have e4 : ((k : Int) == 4) = false := beq_eq_false_iff_ne.2 (by omega)
          have e5 : ((k : Int) == 5) = false := beq_eq_false_iff_ne.2 (by omega)
          have e6 : ((k : Int) == 6) = false := beq_eq_false_iff_ne.2 (by omega)
          clear k1 k2 k3 k4 k5 k6
          have HN : Hid (∀ (W : World), RrAt W R s p (100 - (l - 1)) 0 → Calls Try.prog 87 #[.pointer (some ⟨R, 0, none⟩)] W fun e w' => e = .returned (.int .i64 k) ∧ RrAt w' R s q (100 - (l - 1)) 0 ∧ W.grownBy w' (some R)) := Lib.hid (fun W h => rlnum_ok R s p (100 - (l - 1)) k q W h hs hp hn)
          clear hn
          go_enter Try.func80, Try.ntmps80
          go_wp2_with fail
          refine (HN.out _ HA0.out).mono ?_
          rintro e w1 ⟨rfl, hat1, hg1⟩
          obtain ⟨hZ1, hg1', hz1⟩ := HAFT.out w1 hg1
          obtain ⟨_, _, _, a3, az, aR⟩ := hat1.facts
          have hRw1 : R ≠ w1.heap.size := by omega
          have a3' : w1.cell? ⟨R, 3, none⟩ = some (.int .i64 0) := a3
          clear a3
          have HE : Hid (LpEnd w R s w1.heap.size (.no 20) k 0 none 0 0 ((w1.setCell ⟨R, 3, none⟩ (.int .i64 20)).alloc (.cells #[.int .i64 k, .int .i64 0, .slice none 0 0] 33))) := Lib.hid (by
            have z : (w1.setCell ⟨R, 3, none⟩ (.int .i64 20)).heap.size = w1.heap.size := by simp
            have e0 := heap_new (w1.setCell ⟨R, 3, none⟩ (.int .i64 20)) (.cells #[.int .i64 k, .int .i64 0, .slice none 0 0] 33)
            rw [z] at e0
            have ne2 : w.heap.size ≠ R := by omega
            exact ⟨(heap_old _ _ (by omega)).trans ((Below.heap_setCell _ _ _ _ ne2).trans hZ1), e0, Only.after (Only.after hg1' (Only.set _ _ _ _)) (Only.alloc _ _ _), ⟨_, _, (heap_old _ _ (by omega)).trans (hat1.set3 20)⟩, hz1⟩)
          clear hZ1 hg1' hg1 hat1
          go_wp2_with fail
          go_loopw [8] (fun i wr => i = .int .i64 0 ∧ Hid (LpEnd w R s w1.heap.size (.no 20) k 0 none 0 0 wr)) (fun _ _ => 0)
          case atStart => exact ⟨rfl, HE⟩
          case round =>
            obtain ⟨rfl, hE⟩ := hrel
            obtain ⟨n0, n1, n2, nz, m0, m1, m2⟩ := hE.out.facts
            have HF := Lib.hid (rv_fin hE.out hR)
            clear hE
            go_wp2_with fail
            refine bodyPost_ret (v := .agg #[.int .i64 k, .int .i64 0, .slice none 0 0]) (by simp [results, Try.results80, go_sem, n0, n1, n2]) rfl ?_
            exact HF.out
end Go.Proofs.Ythnkoamabfaioaa
