/- The contract of the document's own Put: what it adds to an arena, or the refusal. No condition but that the arena and the level lie in memory, and there are no more than 90000 nodes. -/
import Derived.Test.YtmbopdlmkbbbiaaArput
import Derived.Test.YtmbopdlmkbbbiaaAput
import Derived.Test.YtmbopdlmkbbbiaaRRight
import Derived.Deep.RegionWith
namespace Go.Proofs.Ytmbopdlmkbbbiaa
open Go.RowKit

theorem PuAt.lower {ns : List Nd} {a : Option Addr} {cap : Nat} {k n : Int} {F : Fo} {xa : Option Addr} {ca N m : Nat} {W W' : World} (h : PuAt ns a cap k n F xa ca N W) (hm : N + 1 + 1 < m) (hb : Below m W W') : PuAt ns a cap k n F xa ca N W' :=
  ⟨(hb.block _ (by omega)).trans h.1, (hb.block _ (by omega)).trans h.2.1, (hb.block _ (by omega)).trans h.2.2⟩
theorem put_low {W w4 : World} {x : Option Addr} {m : Nat} (q2 : W.grownBy w4 (rowOf x)) (hm : m ≤ W.heap.size) (hr : ∀ k, rowOf x = some k → m ≤ k) : Below m W w4 :=
  ⟨q2.os, q2.tape, q2.output, q2.size, fun b hb => q2.block b (by omega) (fun e => by have := hr b e.symm; omega)⟩
theorem put_keep {W w4 : World} {x : Option Addr} {bb : Nat} {o : Obj} (q2 : W.grownBy w4 (rowOf x)) (hbb : W.heap[bb]? = some o) (hne : some bb ≠ rowOf x) : w4.heap[bb]? = some o := (q2.block bb (lt_of_block hbb) hne).trans hbb
/-- A block of one cell, stored into. -/
theorem set_one {w : World} {b : Nat} {x y : Value} {t : TypeId} (h : w.heap[b]? = some (.cells #[x] t (0, 0))) : (w.setCell ⟨b, 0, none⟩ y).heap[b]? = some (.cells #[y] t (0, 0)) := heap_setCell_same w b 0 _ _ y h
/-- What lies there behind put. -/
def BnAt (ns : List Nd) (a : Option Addr) (cap : Nat) (k n : Int) (F : Fo) (xa : Option Addr) (ca : Nat) (w : World) (P : List Nd) (x4 : Option Addr) (c4 bb : Nat) (W : World) : Prop :=
  PuAt ns a cap k n F xa ca w.heap.size W ∧ Below w.heap.size w W ∧ NOwn W w.heap.size (.slice x4 P.length c4) P ∧ W.heap[bb]? = some (.cells #[.slice x4 P.length c4] 26 (0, 0))
theorem BnAt.stored {ns : List Nd} {a : Option Addr} {cap : Nat} {k n : Int} {F : Fo} {xa : Option Addr} {ca : Nat} {w : World} {P : List Nd} {x4 : Option Addr} {c4 bb m : Nat} {W : World} {y : Value} (h1 : PuAt ns a cap k n F xa ca w.heap.size W) (h2 : Below w.heap.size w W) (h3 : NOwn W m (.slice x4 P.length c4) P) (hm : w.heap.size ≤ m)
    (h4 : W.heap[bb]? = some (.cells #[y] 26 (0, 0))) (hbb : w.heap.size + 1 + 1 < bb) : BnAt ns a cap k n F xa ca w P x4 c4 bb (W.setCell ⟨bb, 0, none⟩ (.slice x4 P.length c4)) := by
  have hne : some bb ≠ rowOf x4 := by
    intro e
    rcases h3.2 with ⟨hv, _⟩ | ⟨g, cap, cur, hv, _, hh, _⟩
    · injection hv with hv _ _; subst hv; cases e
    · injection hv with hv _ _; subst hv
      injection e with e
      subst e
      have := h4.symm.trans hh
      simp at this
  have hb1 : Below (w.heap.size + 1 + 1 + 1) W (W.setCell ⟨bb, 0, none⟩ (.slice x4 P.length c4)) := (Below.refl _ _).setCell (by simp; omega) _
  exact ⟨h1.lower (by omega) hb1, h2.trans (hb1.mono (by omega)), NOwn.low (World.ownsRow.kept h3 (Only.set W bb 0 _) (by rw [rowOf_eq]; exact .inr (Ne.symm hne))) hm, set_one h4⟩
theorem BnAt.made {ns : List Nd} {a : Option Addr} {cap : Nat} {k n : Int} {F : Fo} {xa : Option Addr} {ca : Nat} {w : World} {P : List Nd} {x4 : Option Addr} {c4 m : Nat} {W : World} (h1 : PuAt ns a cap k n F xa ca w.heap.size W) (h2 : Below w.heap.size w W) (h3 : NOwn W m (.slice x4 P.length c4) P) (hm : w.heap.size ≤ m) :
    BnAt ns a cap k n F xa ca w P x4 c4 W.heap.size (W.alloc (.cells #[.slice x4 P.length c4] 26)) :=
  ⟨h1.below ((Below.refl _ _).alloc (Nat.le_refl _) _), h2.alloc h2.size _, NOwn.low (World.ownsRow.alloc h3 _) hm, heap_new _ _⟩

set_option maxRecDepth 100000 in
set_option maxHeartbeats 4000000 in
theorem r4Put_any (ns : List Nd) (a : Option Addr) (cap : Nat) (k n : Int) (F : Fo) (xa : Option Addr) (ca B : Nat) (w : World) (hin : NsIn w (· < B) ns a cap) (hsl : SlIn w (· < B) F xa ca) (hB : B ≤ w.heap.size) (hn : ns.length ≤ 90000) :
    Calls Try.prog 25 #[.agg #[.slice a ns.length cap], .agg #[.int .i64 k, .int .i64 n, .slice xa F.len ca]] w (PtPost (putV ns k n F) w) := by
  have hb0 : Below w.heap.size w (((w.alloc (.cells #[.slice a ns.length cap] 26)).alloc (.cells #[.int .i64 k, .int .i64 n, .slice xa F.len ca] 30)).alloc (.cells #[.slice none 0 0] 26)) := (((Below.refl _ _).alloc (Nat.le_refl _) _).alloc (by simp) _).alloc (by simp; omega) _
  have hat : PuAt ns a cap k n F xa ca w.heap.size (((w.alloc (.cells #[.slice a ns.length cap] 26)).alloc (.cells #[.int .i64 k, .int .i64 n, .slice xa F.len ca] 30)).alloc (.cells #[.slice none 0 0] 26)) :=
    ⟨(heap_old _ _ (by simp; omega)).trans ((heap_old _ _ (by simp)).trans (heap_new _ _)), (heap_old _ _ (by simp)).trans (heap_second _ _ _), by
      have := heap_new ((w.alloc (.cells #[.slice a ns.length cap] 26)).alloc (.cells #[.int .i64 k, .int .i64 n, .slice xa F.len ca] 30)) (.cells #[.slice none 0 0] 26)
      simpa using this⟩
  have HAT := Lib.hid hat
  have HB0 := Lib.hid hb0
  have HIN := Lib.hid hin
  have HSL := Lib.hid hsl
  obtain ⟨c0, c1, c2, c3, c4, c5, c6⟩ := hat.facts
  clear hat hb0 hin hsl
  -- what is told with an error
  have HX : Hid (∀ (er : Int) (W w2 : World) (x : Option Addr) (c : Nat), Below w.heap.size w W → PuAt ns a cap k n F xa ca w.heap.size W → NOwn w2 W.heap.size (.slice x ns.length c) ns → Below W.heap.size W w2 →
      PtPost (ns, 0, er) w (.returned (.tuple #[.agg #[.slice x ns.length c], .int .i64 0, .int .i64 er])) (w2.setCell ⟨w.heap.size + 1 + 1, 0, none⟩ (.slice x ns.length c))) := Lib.hid (by
    intro er W w2 x c h1 h2 h3 h4
    have hlt := lt_of_block h2.2.2
    exact ⟨x, c, rfl, (h3.setLow hlt 0 _).low (by omega), (Below.step h1 h4 (Nat.le_refl _)).setCell (by simp; omega) _⟩)
  have HCP : Hid (∀ (W : World), Below w.heap.size w W → Calls Try.prog 48 #[.agg #[.slice a ns.length cap]] W (CpPost ns W)) := Lib.hid (fun W h => r4own_any ns a cap B W (HIN.out.below (h.mono hB)) (Nat.le_trans hB h.size) (by omega))
  have HRN : Hid (∀ (W : World), Below w.heap.size w W → Calls Try.prog 28 #[.agg #[.slice a ns.length cap]] W fun e w' => e = .returned (.bool (rightN ns)) ∧ Below W.heap.size W w') := Lib.hid (fun W h => r4Right_any ns a cap B W (HIN.out.below (h.mono hB)) (Nat.le_trans hB h.size))
  have HRT : Hid (∀ (W : World), Below w.heap.size w W → Calls Try.prog 43 #[.agg #[.int .i64 k, .int .i64 n, .slice xa F.len ca], .int .i64 5, .int .i64 10] W fun e w' => e = .returned (.bool (rightB 5 10 k n F)) ∧ Below W.heap.size W w') := Lib.hid (fun W h => rRight_any 5 10 k n F xa ca B W (HSL.out.below (h.mono hB)) (Nat.le_trans hB h.size))
  cases hr : rightN ns with
  | false =>
    have hv : putV ns k n F = (ns, 0, 1) := by unfold putV; rw [if_neg (by rw [hr]; simp)]
    rw [hv]
    rw [hr] at HRN
    clear hv hr
    go_enter Try.func25, Try.ntmps25
    go_wp2_with fail
    refine (HRN.out _ HB0.out).mono ?_
    rintro e w1 ⟨rfl, hb1⟩
    have HAT1 := Lib.hid (HAT.out.below hb1)
    have HB1 := Lib.hid (Below.step HB0.out hb1 (Nat.le_refl _))
    clear c0 c1 c2 c3 c4 c5 c6
    obtain ⟨c0, c1, c2, c3, c4, c5, c6⟩ := HAT1.out.facts
    clear hb1
    go_wp2_with fail
    refine (HCP.out _ HB1.out).mono ?_
    rintro e w2 ⟨x, c, rfl, h1, h2⟩
    obtain ⟨d0, d1, d2, d3, d4, d5, d6⟩ := (HAT1.out.below h2).facts
    have HE := Lib.hid (HX.out 1 w1 w2 x c HB1.out HAT1.out h1 h2)
    clear h1 h2 c0 c1 c2 c3 c4 c5 c6
    go_wp2_with fail
    refine bodyPost_ret (v := .tuple #[.agg #[.slice x ns.length c], .int .i64 0, .int .i64 1]) (by simp [results, Try.results25, go_sem, d4]) rfl ?_
    exact HE.out
  | true =>
    rw [hr] at HRN
    cases hR : rightB 5 10 k n F with
    | false =>
      have hv : putV ns k n F = (ns, 0, 1) := by unfold putV; rw [if_neg (by rw [hR]; simp)]
      rw [hv]
      rw [hR] at HRT
      clear hv hr hR
      go_enter Try.func25, Try.ntmps25
      go_wp2_with fail
      refine (HRN.out _ HB0.out).mono ?_
      rintro e w1 ⟨rfl, hb1⟩
      have HAT1 := Lib.hid (HAT.out.below hb1)
      have HB1 := Lib.hid (Below.step HB0.out hb1 (Nat.le_refl _))
      clear c0 c1 c2 c3 c4 c5 c6
      obtain ⟨c0, c1, c2, c3, c4, c5, c6⟩ := HAT1.out.facts
      clear hb1
      go_wp2_with fail
      refine (HRT.out _ HB1.out).mono ?_
      rintro e w2 ⟨rfl, hb2⟩
      have HAT2 := Lib.hid (HAT1.out.below hb2)
      have HB2 := Lib.hid (Below.step HB1.out hb2 (Nat.le_refl _))
      clear c0 c1 c2 c3 c4 c5 c6 hb2
      obtain ⟨c0, c1, c2, c3, c4, c5, c6⟩ := HAT2.out.facts
      go_wp2_with fail
      refine (HCP.out _ HB2.out).mono ?_
      rintro e w3 ⟨x, c, rfl, h1, h2⟩
      obtain ⟨d0, d1, d2, d3, d4, d5, d6⟩ := (HAT2.out.below h2).facts
      have HE := Lib.hid (HX.out 1 w2 w3 x c HB2.out HAT2.out h1 h2)
      clear h1 h2 c0 c1 c2 c3 c4 c5 c6
      go_wp2_with fail
      refine bodyPost_ret (v := .tuple #[.agg #[.slice x ns.length c], .int .i64 0, .int .i64 1]) (by simp [results, Try.results25, go_sem, d4]) rfl ?_
      exact HE.out
    | true =>
      rw [hR] at HRT
      have HV : Hid (putV ns k n F = if (putL k n F ns).1.length ≤ 1000 then ((putL k n F ns).1, (putL k n F ns).2, 0) else (ns, 0, 2)) := Lib.hid (by unfold putV; rw [if_pos ⟨hr, hR⟩])
      have HW := Lib.hid (right_w2 hR)
      have hpl := putL_len k n F ns
      have HLV : Hid (∀ (W : World) (base : Nat) (x : Option Addr) (c : Nat), Below w.heap.size w W → w.heap.size ≤ base → base ≤ W.heap.size → NOwn W base (.slice x ns.length c) ns → Calls Try.prog 49 #[.agg #[.slice x ns.length c], .agg #[.int .i64 k, .int .i64 n, .slice xa F.len ca]] W (RpPost base x (putL k n F ns) W)) := Lib.hid (fun W base x c h1 h2 h3 h4 =>
        r4put_any base (F.size + 1) F (Nat.lt_succ_self _) k n xa ca B x c ns W (HSL.out.below (h1.mono hB)) (Nat.le_trans hB h2) h3 h4 HW.out.1 HW.out.2.1 (by have := HW.out.2.2; omega))
      clear hr hR
      have HPL : Hid ((putL k n F ns).1.length ≤ ns.length + 100) := Lib.hid (by have := HW.out.2.2; omega)
      generalize putL k n F ns = P at HV HLV hpl HPL
      go_enter Try.func25, Try.ntmps25
      go_wp2_with fail
      refine (HRN.out _ HB0.out).mono ?_
      rintro e w1 ⟨rfl, hb1⟩
      have HAT1 := Lib.hid (HAT.out.below hb1)
      have HB1 := Lib.hid (Below.step HB0.out hb1 (Nat.le_refl _))
      clear c0 c1 c2 c3 c4 c5 c6
      obtain ⟨c0, c1, c2, c3, c4, c5, c6⟩ := HAT1.out.facts
      clear hb1
      go_wp2_with fail
      refine (HRT.out _ HB1.out).mono ?_
      rintro e w2 ⟨rfl, hb2⟩
      have HAT2 := Lib.hid (HAT1.out.below hb2)
      have HB2 := Lib.hid (Below.step HB1.out hb2 (Nat.le_refl _))
      clear c0 c1 c2 c3 c4 c5 c6 hb2
      obtain ⟨c0, c1, c2, c3, c4, c5, c6⟩ := HAT2.out.facts
      go_wp2_with fail
      have hz2 := HB2.out.size
      have HLT : Hid (w.heap.size + 1 + 1 < w2.heap.size) := Lib.hid c6
      have c7 : w.heap.size + 1 < w2.heap.size := by omega
      have c8 : w.heap.size < w2.heap.size := by omega
      go_region_law (first
        | (go_simp; go_at_call 48; refine (HCP.out _ (by first | exact HB2.out.drew | exact HB2.out.drew.alloc HB2.out.size _)).mono ?_; rintro e w3 ⟨x, c, rfl, h1, h2⟩
           have h3 : Below w2.heap.size w2 w3 := by first | exact (Below.draws (Below.refl _ _) 1).trans h2 | exact ((Below.draws (Below.refl _ _) 1).alloc (Nat.le_refl _) _).trans (h2.mono (by simp))
           have HO3 := Lib.hid (h1.low (base' := w2.heap.size) (by first | exact Nat.le_refl _ | simp))
           have PU3 := Lib.hid (HAT2.out.below h3)
           have HB3 := Lib.hid (Below.step HB2.out h3 (Nat.le_refl _))
           have HZ3 := Lib.hid h3.size
           have HROW : Hid ((∀ k, rowOf x = some k → w2.heap.size ≤ k) ∧ (∀ k, rowOf x = some k → k < w3.heap.size)) := Lib.hid ⟨fun k hk => (HO3.out.lt k (by rw [rowOf_eq]; exact hk)).1, fun k hk => (HO3.out.lt k (by rw [rowOf_eq]; exact hk)).2⟩
           first
           | (have hT := (h2.block w2.heap.size (by simp)).trans (heap_new w2.drew _)
              have hTR : Hid (some w2.heap.size ≠ rowOf x) := Lib.hid (fun e => by have := (h1.lt _ (by rw [rowOf_eq]; exact e.symm)).1; simp at this; omega)
              have T3 := Lib.hid hT
              clear hT)
           | skip
           obtain ⟨d0, d1, d2, d3, d4, d5, d6⟩ := PU3.out.facts; have d7 : w.heap.size + 1 < w3.heap.size := by omega
           have d8 : w.heap.size < w3.heap.size := by omega
           clear h1 h2 h3)
        | (go_simp; go_at_call 49; refine (HLV.out _ w2.heap.size x c (by first | exact HB3.out | exact HB3.out.alloc HB3.out.size _) hz2 (by first | exact HZ3.out | (have := HZ3.out; simp; omega)) (by first | exact HO3.out | exact World.ownsRow.alloc HO3.out _)).mono ?_; rintro e w4 ⟨x4, c4', rfl, q1, q2, q3⟩
           have PU4 := Lib.hid (PuAt.lower (by first | exact PU3.out | exact PU3.out.below ((Below.refl _ _).alloc (Nat.le_refl _) _)) HLT.out (put_low q2 (by first | exact HZ3.out | (have := HZ3.out; simp; omega)) HROW.out.1))
           have HB4 := Lib.hid (Below.trans (by first | exact HB3.out | exact HB3.out.alloc HB3.out.size _) ((put_low q2 (by first | exact HZ3.out | (have := HZ3.out; simp; omega)) HROW.out.1).mono hz2))
           have HO4 := Lib.hid q1
           first
           | (have hT := put_keep q2 (heap_new w3 _) (fun e => by have := HROW.out.2 _ e.symm; omega)
              have t0 := cell_at hT 0; have tz := free_of hT; simp at t0
              have T4 := Lib.hid hT
              clear hT)
           | (have hT := put_keep q2 T3.out hTR.out
              have t0 := cell_at hT 0; have tz := free_of hT; simp at t0
              have T4 := Lib.hid hT
              clear hT)
           | skip
           clear q1 q2 q3))
      all_goals
        first
        | (have HF := Lib.hid (BnAt.stored (bb := w3.heap.size) PU4.out HB4.out HO4.out hz2 T4.out (by have := HLT.out; have := HZ3.out; omega))
           obtain ⟨W4, hA⟩ : ∃ W4, (w4.setCell ⟨w3.heap.size, 0, none⟩ (.slice x4 P.1.length c4')) = W4 := ⟨_, rfl⟩
           obtain ⟨bb, hbb⟩ : ∃ bb, w3.heap.size = bb := ⟨_, rfl⟩
           rw [hA] at HF ⊢; rw [hbb] at HF ⊢)
        | (have HF := Lib.hid (BnAt.stored (bb := w2.heap.size) PU4.out HB4.out HO4.out hz2 T4.out HLT.out)
           obtain ⟨W4, hA⟩ : ∃ W4, (w4.setCell ⟨w2.heap.size, 0, none⟩ (.slice x4 P.1.length c4')) = W4 := ⟨_, rfl⟩
           obtain ⟨bb, hbb⟩ : ∃ bb, w2.heap.size = bb := ⟨_, rfl⟩
           rw [hA] at HF ⊢; rw [hbb] at HF ⊢)
        | (have HF := Lib.hid (BnAt.made PU4.out HB4.out HO4.out hz2)
           obtain ⟨W4, hA⟩ : ∃ W4, (w4.alloc (.cells #[.slice x4 P.1.length c4'] 26)) = W4 := ⟨_, rfl⟩
           obtain ⟨bb, hbb⟩ : ∃ bb, w4.heap.size = bb := ⟨_, rfl⟩
           rw [hA] at HF ⊢; rw [hbb] at HF ⊢)
      all_goals
        have n0 := cell_at HF.out.2.2.2 0
        simp at n0
        clear d0 d1 d2 d3 d4 d5 d6 d7 d8 c0 c1 c2 c3 c4 c5 c6 c7 c8 hA hbb PU4 HB4 HO4 PU3 HB3 HO3 HZ3 HROW HLV HRN HRT HAT1 HAT2 HB1 HB2 HPL hpl
        obtain ⟨c0, c1, c2, c3, c4, c5, c6⟩ := HF.out.1.facts
        by_cases hbig : P.1.length ≤ 1000
        · have hb' : ¬ (1000 : Int) < (P.1.length : Int) := by omega
          have d' : decide ((1000 : Int) < (P.1.length : Int)) = false := by simpa using hb'
          have hv := HV.out
          rw [if_pos hbig] at hv
          have HVV := Lib.hid hv
          have HE : Hid (PtPost (P.1, P.2, 0) w (.returned (.tuple #[.agg #[.slice x4 P.1.length c4'], .int .i64 P.2, .int .i64 0])) (W4.setCell ⟨w.heap.size + 1 + 1, 0, none⟩ (.slice x4 P.1.length c4'))) := Lib.hid
            ⟨x4, c4', rfl, World.ownsRow.kept HF.out.2.2.1 (Only.set W4 (w.heap.size + 1 + 1) 0 _) (.inr (fun e => by
              rcases HF.out.2.2.1.2 with ⟨hv, _⟩ | ⟨g, cap, cur, hv, _, hh, _⟩
              · rw [hv] at e; cases e
              · rw [hv] at e; injection e with e; simp at e; subst e
                have := HF.out.1.2.2.symm.trans hh
                simp at this)), HF.out.2.1.setCell (by simp; omega) _⟩
          clear hv hbig
          go_wp2_with fail
          refine bodyPost_ret (v := .tuple #[.agg #[.slice x4 P.1.length c4'], .int .i64 P.2, .int .i64 0]) (by simp [results, Try.results25, go_sem, c4]) rfl ?_
          rw [HVV.out]
          exact HE.out
        · have hb' : (1000 : Int) < (P.1.length : Int) := by omega
          have hv := HV.out
          rw [if_neg hbig] at hv
          have HVV := Lib.hid hv
          clear hv hbig
          go_wp2_with fail
          refine (HCP.out _ HF.out.2.1).mono ?_
          rintro e w5 ⟨x5, c5', rfl, h1, h2⟩
          obtain ⟨d0, d1, d2, d3, d4, d5, d6⟩ := (HF.out.1.below h2).facts
          have HE := Lib.hid (HX.out 2 W4 w5 x5 c5' HF.out.2.1 HF.out.1 h1 h2)
          clear h1 h2 c0 c1 c2 c3 c4 c5 c6 n0
          go_wp2_with fail
          refine bodyPost_ret (v := .tuple #[.agg #[.slice x5 ns.length c5'], .int .i64 0, .int .i64 2]) (by simp [results, Try.results25, go_sem, d4]) rfl ?_
          rw [HVV.out]
          exact HE.out
end Go.Proofs.Ytmbopdlmkbbbiaa
