/- The contract of the document's own lift. No condition but that the term is well-formed and lies in memory. -/
import Derived.Test.YtokckghedpdfiaaTrq
import Derived.Test.YtokckghedpdfiaaTrshape
import Derived.Test.YtokckghedpdfiaaStep
import Derived.Test.YtokckghedpdfiaaHeldL
import Derived.Deep.RegionLaw
import Derived.IntWalk
namespace Go.Proofs.Ytokckghedpdfiaa
open Go.RowKit

set_option maxRecDepth 100000 in
set_option maxHeartbeats 8000000 in
theorem r13lift_any (by' : Int) (hy0 : 0 ≤ by') (hy1 : by' ≤ 2000) (s : Nat) : ∀ (f : Ft), f.size < s → f.size ≤ 1000 → ∀ (k n fr : Int) (ls : Fo) (la ka : Option Addr) (lc kc B : Nat) (w : World), wf1 1030 k n ls f → 0 ≤ fr → fr + f.size ≤ 4000 → SlIn w (· < B) ls la lc → TlIn w (· < B) f ka kc → B ≤ w.heap.size →
    Calls Try.prog 42 #[.agg #[.int .i64 k, .int .i64 n, .slice la ls.len lc, .slice ka f.len kc], .int .i64 fr, .int .i64 by'] w (TmPost B (lf1 by' k n ls f fr) w) := by
  induction s with
  | zero => intro f hs; omega
  | succ s ih =>
    intro f hs hsz k n fr ls la ka lc kc B w hwf hf0 hf1 hls hsl hB
    have IH := Lib.hid ih
    clear ih
    have hlen := hsl.len
    by_cases hk : k = 1
    · subst hk
      obtain ⟨rfl, rfl, hn0, hn1⟩ := wf1_leaf hwf
      have HLS := Lib.hid hls
      by_cases hc : fr ≤ n
      · have e : lf1 by' 1 n .nil .nil fr = ⟨1, n + by', .nil, .nil⟩ := by unfold lf1; rw [if_pos ⟨rfl, hc⟩]; rfl
        rw [e]
        obtain ⟨q0, q1, q2, q3⟩ := cells4 ((heap_old (((w.alloc (.cells #[.int .i64 1, .int .i64 n, .slice la 0 lc, .slice ka 0 kc] 25)).alloc (.cells #[.int .i64 0, .int .i64 0, .slice none 0 0, .slice none 0 0] 25))) (.cells #[.int .i64 1, .int .i64 (n + by'), .slice la 0 lc, .slice none 0 0] 25) (by simp; omega : w.heap.size < _)).trans ((heap_old _ _ (by simp)).trans (heap_new _ _)))
        clear e hls hsl hwf IH
        simp only [Ft.len, Fo.len]
        go_enter Try.func42, Try.ntmps42
        go_wp2_with fail
        go_loopw [8] (fun i wr => i = .int .i64 0 ∧ wr = (((w.alloc (.cells #[.int .i64 1, .int .i64 n, .slice la 0 lc, .slice ka 0 kc] 25)).alloc (.cells #[.int .i64 0, .int .i64 0, .slice none 0 0, .slice none 0 0] 25)).alloc (.cells #[.int .i64 1, .int .i64 (n + by'), .slice la 0 lc, .slice none 0 0] 25))) (fun _ _ => 0)
        case atStart => exact ⟨rfl, rfl⟩
        case round =>
          obtain ⟨rfl, rfl⟩ := hrel
          go_wp2_with fail
          refine bodyPost_ret (v := .agg #[.int .i64 1, .int .i64 (n + by'), .slice la 0 lc, .slice none 0 0]) (by simp [results, Try.results42, go_sem]) rfl ?_
          exact ⟨la, lc, none, 0, rfl, ⟨HLS.out.1, HLS.out.2.1, HLS.out.2.2.1, fun h => by simp [Fo.len] at h⟩, TlIn.none _ _, (((Below.refl _ _).alloc (Nat.le_refl _) _).alloc (by simp) _).alloc (by simp; omega) _⟩
      · have e : lf1 by' 1 n .nil .nil fr = ⟨1, n, .nil, .nil⟩ := by unfold lf1; rw [if_neg (fun h => hc h.2)]; rfl
        rw [e]
        obtain ⟨q0, q1, q2, q3⟩ := cells4 ((heap_old (((w.alloc (.cells #[.int .i64 1, .int .i64 n, .slice la 0 lc, .slice ka 0 kc] 25)).alloc (.cells #[.int .i64 0, .int .i64 0, .slice none 0 0, .slice none 0 0] 25))) (.cells #[.int .i64 1, .int .i64 n, .slice la 0 lc, .slice none 0 0] 25) (by simp; omega : w.heap.size < _)).trans ((heap_old _ _ (by simp)).trans (heap_new _ _)))
        have d1 : decide (fr ≤ n) = false := decide_eq_false hc
        clear e hls hsl hwf IH
        simp only [Ft.len, Fo.len]
        go_enter Try.func42, Try.ntmps42
        go_wp2_with fail
        go_loopw [8] (fun i wr => i = .int .i64 0 ∧ wr = (((w.alloc (.cells #[.int .i64 1, .int .i64 n, .slice la 0 lc, .slice ka 0 kc] 25)).alloc (.cells #[.int .i64 0, .int .i64 0, .slice none 0 0, .slice none 0 0] 25)).alloc (.cells #[.int .i64 1, .int .i64 n, .slice la 0 lc, .slice none 0 0] 25))) (fun _ _ => 0)
        case atStart => exact ⟨rfl, rfl⟩
        case round =>
          obtain ⟨rfl, rfl⟩ := hrel
          go_wp2_with fail
          refine bodyPost_ret (v := .agg #[.int .i64 1, .int .i64 n, .slice la 0 lc, .slice none 0 0]) (by simp [results, Try.results42, go_sem]) rfl ?_
          exact ⟨la, lc, none, 0, rfl, ⟨HLS.out.1, HLS.out.2.1, HLS.out.2.2.1, fun h => by simp [Fo.len] at h⟩, TlIn.none _ _, (((Below.refl _ _).alloc (Nat.le_refl _) _).alloc (by simp) _).alloc (by simp; omega) _⟩
    · have hk' : (k == 1) = false := beq_eq_false_iff_ne.2 hk
      have e : lf1 by' k n ls f fr = ⟨k, n, ls, lfF by' f k 0 fr⟩ := by unfold lf1; rw [if_neg (fun h => hk h.1)]
      rw [e]
      have HW := Lib.hid hwf.2.2
      have HLS := Lib.hid hls
      have HSL := Lib.hid hsl
      have HS := Lib.hid (TrQ.start1 (k := k) (n := n) (ls := ls) (la := la) (lc := lc) (.cells #[.int .i64 k, .int .i64 n, .slice la ls.len lc, .slice ka f.len kc] 25) hB)
      have HBX : Hid ((((w.alloc (.cells #[.int .i64 k, .int .i64 n, .slice la ls.len lc, .slice ka f.len kc] 25)).alloc (.cells #[.int .i64 0, .int .i64 0, .slice none 0 0, .slice none 0 0] 25)).alloc (.cells #[.int .i64 k, .int .i64 n, .slice la ls.len lc, .slice none 0 0] 25)).heap[w.heap.size]? = some (.cells #[.int .i64 k, .int .i64 n, .slice la ls.len lc, .slice ka f.len kc] 25 (0, 0))) := Lib.hid ((heap_old _ _ (by simp; omega)).trans ((heap_old _ _ (by simp)).trans (heap_new _ _)))
      clear e hk hwf hls hsl
      go_enter Try.func42, Try.ntmps42
      go_wp2_with fail
      go_loopw [8] (fun jv wr => ∃ (j : Nat) (H rest : Ft) (v : Value), jv = .int .i64 j ∧ Hid (f = H.app rest) ∧ Hid (H.len = j) ∧ Hid (TrQ w (w.heap.size + 1) (w.heap.size + 1 + 1) B k n ls la lc (lfF by' H k 0 fr) v wr) ∧ Hid (wr.heap[w.heap.size]? = some (.cells #[.int .i64 k, .int .i64 n, .slice la ls.len lc, .slice ka f.len kc] 25 (0, 0)))) (fun jv _ => f.len - (intOf jv).toNat)
      case atStart => exact ⟨0, .nil, f, _, rfl, Lib.hid rfl, Lib.hid rfl, HS, HBX⟩
      case round =>
        obtain ⟨j, H, rest, v, rfl, hf, hj, hR, hbx⟩ := hrel
        obtain ⟨⟨g0, g1, g2, g3, gz⟩, ⟨q0, q1, q2, q3, qz⟩, hob, hwr⟩ := hR.out.facts
        obtain ⟨c0, _, _, c3⟩ := cells4 hbx.out
        cases rest with
        | nil =>
          have hjl : ¬ (j : Int) < (f.len : Int) := by rw [hf.out, Ft.app_nil, hj.out]; omega
          have dj : decide ((j : Int) < (f.len : Int)) = false := by simpa using hjl
          obtain ⟨x, c, rfl, hE⟩ := hR.out.done HLS.out
          have HE := Lib.hid hE
          have HF : Hid (f = H) := Lib.hid (by rw [hf.out, Ft.app_nil])
          clear hE hR hf
          go_wp2_with fail
          refine bodyPost_ret (v := .agg #[.int .i64 k, .int .i64 n, .slice la ls.len lc, .slice x (lfF by' H k 0 fr).len c]) (by simp [results, Try.results42, go_sem, g0, g1, g2, g3]) rfl ?_
          rw [HF.out]
          exact HE.out
        | cons k' n' ls' ks r' =>
          have hjn : j < f.len := by rw [hf.out, Ft.app_len, hj.out]; simp [Ft.len]
          have hjl : (j : Int) < (f.len : Int) := by omega
          obtain ⟨bq, o, rfl, hbB, hf0'⟩ := HSL.out.some (by omega)
          have hfa : FtIn w (· < B) (.cons k' n' ls' ks r') bq (o + j * 4) := by
            have h1 := hf0'
            rw [hf.out] at h1
            rw [← hj.out]
            exact FtIn.behind H _ bq o h1
          obtain ⟨e0, e1, ⟨la', lc', e2, hls'⟩, ⟨ka', kc', e3, hsl'⟩, _⟩ := (hfa.below (hwr.mono hB) _ _ _ hbB).first
          have hfs : f.size = H.size + (ks.size + r'.size + 1) := by rw [hf.out, Ft.app_size]; rfl
          have hks : ks.size < s := by omega
          have hwk' : wf1 1030 k' n' ls' ks := by
            have h1 := HW.out
            rw [hf.out, wfF_app] at h1
            exact (wfF_parts h1.2).1
          have hbi := bindK_le k j
          have hBr : B ≤ wr.heap.size := Nat.le_trans hB hwr.size
          have hbk : Below wr.heap.size wr wr.drew := (Below.refl _ _).drew
          have HC : Hid (Calls Try.prog 42 #[.agg #[.int .i64 k', .int .i64 n', .slice la' ls'.len lc', .slice ka' ks.len kc'], .int .i64 (fr + bindK k j), .int .i64 by'] wr.drew (TmPost B (lf1 by' k' n' ls' ks (fr + bindK k j)) wr.drew)) :=
            Lib.hid (IH.out ks hks (by omega) k' n' (fr + bindK k j) ls' la' ka' lc' kc' B _ hwk' (by omega) (by omega) (hls'.below (hbk.mono hBr)) (hsl'.below (hbk.mono hBr)) (Nat.le_trans hBr hbk.size))
          have hGl : (lfF by' H k 0 fr).len = j := by rw [lfF_len, hj.out]
          have hT' : lfF by' (H.app (.cons k' n' ls' ks .nil)) k 0 fr = (lfF by' H k 0 fr).app (lf1 by' k' n' ls' ks (fr + bindK k j)).one := by
            rw [lfF_app, lfF_cons, hj.out, Nat.zero_add]; rfl
          have HAP : Hid (∀ (e : Ending) (w2 : World), TmPost B (lf1 by' k' n' ls' ks (fr + bindK k j)) wr.drew e w2 → ∃ (T : Tm) (x1 : Option Addr) (y1 : Nat) (x2 : Option Addr) (y2 : Nat), e = .returned (.agg #[.int .i64 T.k, .int .i64 T.n, .slice x1 T.ls.len y1, .slice x2 T.ks.len y2]) ∧
              w2.cell? ⟨w.heap.size + 1 + 1, 3, none⟩ = some v ∧ w.heap.size + 1 + 1 < w2.heap.size ∧ (w2.alloc (.cells #[.int .i64 T.k, .int .i64 T.n, .slice x1 T.ls.len y1, .slice x2 T.ks.len y2] 25)).cell? ⟨w.heap.size + 1 + 1, 3, none⟩ = some v ∧
              Hid (∀ q, q ≤ w.heap.size → w2.heap[q]? = wr.heap[q]?) ∧ Hid (∀ q, q ≤ w.heap.size → (w2.alloc (.cells #[.int .i64 T.k, .int .i64 T.n, .slice x1 T.ls.len y1, .slice x2 T.ks.len y2] 25)).heap[q]? = wr.heap[q]?) ∧
              ∃ g' cap' w3, Hid ((Builtin.append_ #[23, 23] 23 #[v, .slice (some ⟨w2.heap.size, 0, none⟩) 1 1]).run Try.prog (w2.alloc (.cells #[.int .i64 T.k, .int .i64 T.n, .slice x1 T.ls.len y1, .slice x2 T.ks.len y2] 25)) = .ok (.slice (some ⟨g', 0, none⟩) (j + 1) cap') w3) ∧
                w3.cell? ⟨w.heap.size + 1 + 1, 3, none⟩ = some v ∧ (∀ o, w3.frozen? ⟨w.heap.size + 1 + 1, o, none⟩ = false) ∧ Hid (∀ q, q ≤ w.heap.size → w3.heap[q]? = wr.heap[q]?) ∧
                Hid (TrQ w (w.heap.size + 1) (w.heap.size + 1 + 1) B k n ls la lc (lfF by' (H.app (.cons k' n' ls' ks .nil)) k 0 fr) (.slice (some ⟨g', 0, none⟩) (j + 1) cap') (w3.setCell ⟨w.heap.size + 1 + 1, 3, none⟩ (.slice (some ⟨g', 0, none⟩) (j + 1) cap'))) ∧ Hid ((w3.setCell ⟨w.heap.size + 1 + 1, 3, none⟩ (.slice (some ⟨g', 0, none⟩) (j + 1) cap')).heap[w.heap.size]? = some (.cells #[.int .i64 k, .int .i64 n, .slice la ls.len lc, .slice (some ⟨bq, o, none⟩) f.len kc] 25 (0, 0)))) := Lib.hid (by
            rintro e w2 ⟨x1, y1, x2, y2, rfl, t0, t1, t2⟩
            have hG1 : (lfF by' H k 0 fr).len ≤ 1000 := by rw [hGl]; have h1 := Ft.len_le_size f; omega
            have t4 : Below wr.heap.size wr w2 := Below.trans (Below.refl _ _).drew t2
            have hz4 := t4.size
            have hw4 := hwr.size
            obtain ⟨L2, hlb2, g', cap', w3, hrun, L3, Z3, hq, hN⟩ := TrQ.next hR.out hG1 t0 t1 t4
            rw [hGl] at hrun hN
            rw [hT']
            refine ⟨_, x1, y1, x2, y2, rfl, L2, hlb2, (World.cell?_of_block (w := w2) (a := ⟨w.heap.size + 1 + 1, 3, none⟩) (heap_old w2 _ hlb2)).trans L2, Lib.hid (fun q hq => t4.block q (by omega)), Lib.hid (fun q hq => (heap_old w2 _ (by omega)).trans (t4.block q (by omega))), g', cap', w3, Lib.hid hrun, L3, Z3, Lib.hid (fun q h => hq q (by omega)), Lib.hid hN, Lib.hid ?_⟩
            have nq : w.heap.size ≠ w.heap.size + 1 + 1 := by omega
            rw [Below.heap_setCell _ _ _ _ nq]
            exact (hq _ (by omega)).trans hbx.out)
          have HSN : Hid (f = (H.app (.cons k' n' ls' ks .nil)).app r') := Lib.hid (by rw [hf.out, Ft.app_assoc]; rfl)
          have HJ := Lib.hid hj.out
          have HW1 : Hid (IntKind.i64.wrap (fr + bindK k j) = fr + bindK k j) := Lib.hid (IntWalk.i64_in _ (by omega))
          have HBI : Hid (∀ W, Calls Try.prog 46 #[.int .i64 k, .int .i64 j] W fun e w' => e = .returned (.int .i64 (bindK k j)) ∧ w' = W) := Lib.hid (r13binds_any k j)
          have hbN : bq ≤ w.heap.size := by omega
          generalize bindK k j = Y at HC HAP HW1 HBI
          generalize lf1 by' k' n' ls' ks (fr + Y) = TT at HC HAP
          clear hf hR hfa hf0' hGl hT' g0 g1 g2 g3 gz q0 q1 q2 qz hls' hsl' hwk' hbi hfs hbk
          go_wp2_with fail
          refine wp_region_L (fun (w' : World) => w'.cell? ⟨w.heap.size + 1 + 1, 3, none⟩ = some v ∧ w'.cell? ⟨w.heap.size, 0, none⟩ = some (.int .i64 k) ∧ w'.cell? ⟨w.heap.size, 3, none⟩ = some (.slice (some ⟨bq, o, none⟩) f.len kc) ∧ w'.cell? ⟨bq, o + j * 4, none⟩ = some (.int .i64 k') ∧ w'.cell? ⟨bq, o + j * 4 + 1, none⟩ = some (.int .i64 n') ∧ w'.cell? ⟨bq, o + j * 4 + 2, none⟩ = some (.slice la' ls'.len lc') ∧ w'.cell? ⟨bq, o + j * 4 + 3, none⟩ = some (.slice ka' ks.len kc')) 18 (by kernel_rfl) ?_
          have hH := (show (fun (w' : World) => w'.cell? ⟨w.heap.size + 1 + 1, 3, none⟩ = some v ∧ w'.cell? ⟨w.heap.size, 0, none⟩ = some (.int .i64 k) ∧ w'.cell? ⟨w.heap.size, 3, none⟩ = some (.slice (some ⟨bq, o, none⟩) f.len kc) ∧ w'.cell? ⟨bq, o + j * 4, none⟩ = some (.int .i64 k') ∧ w'.cell? ⟨bq, o + j * 4 + 1, none⟩ = some (.int .i64 n') ∧ w'.cell? ⟨bq, o + j * 4 + 2, none⟩ = some (.slice la' ls'.len lc') ∧ w'.cell? ⟨bq, o + j * 4 + 3, none⟩ = some (.slice ka' ks.len kc')) wr.drew from ⟨q3, c0, c3, e0, e1, e2, e3⟩)
          try simp only [Act.put, List.setIfInBounds_toArray, List.set_cons_zero, List.set_cons_succ]
          refine wpAnyL_take (i := 0) (v := ?_) (by simp only [List.getElem?_toArray, List.getElem?_cons_zero]; rfl) (by kernel_rfl) (by kernel_rfl) (by kernel_rfl) (by kernel_rfl) (by intro _ _ _ h; exact h) (Or.inl ⟨by rfl, ?_⟩) hH ?_
          rotate_left
          · intro w' hSw
            obtain ⟨s0, s1, s2, s3, s4, s5, s6⟩ := hSw
            go_simp
            try with_reducible rfl
          try simp only [Act.put, List.setIfInBounds_toArray, List.set_cons_zero, List.set_cons_succ]
          refine wpAnyL_take (i := 1) (v := ?_) (by simp only [List.getElem?_toArray, List.getElem?_cons_succ, List.getElem?_cons_zero]; rfl) (by kernel_rfl) (by kernel_rfl) (by kernel_rfl) (by kernel_rfl) (by intro _ _ _ h; exact h) (Or.inl ⟨by rfl, ?_⟩) hH ?_
          rotate_left
          · intro w' hSw
            obtain ⟨s0, s1, s2, s3, s4, s5, s6⟩ := hSw
            go_simp
            try with_reducible rfl
          try simp only [Act.put, List.setIfInBounds_toArray, List.set_cons_zero, List.set_cons_succ]
          refine wpAnyL_take (i := 2) (v := ?_) (by simp only [List.getElem?_toArray, List.getElem?_cons_succ, List.getElem?_cons_zero]; rfl) (by kernel_rfl) (by kernel_rfl) (by kernel_rfl) (by kernel_rfl) (by intro _ _ _ h; exact h) (Or.inl ⟨by rfl, ?_⟩) hH ?_
          rotate_left
          · intro w' hSw
            obtain ⟨s0, s1, s2, s3, s4, s5, s6⟩ := hSw
            go_simp
            try with_reducible rfl
          try simp only [Act.put, List.setIfInBounds_toArray, List.set_cons_zero, List.set_cons_succ]
          refine wpAnyL_take (i := 3) (v := ?_) (by simp only [List.getElem?_toArray, List.getElem?_cons_succ, List.getElem?_cons_zero]; rfl) (by kernel_rfl) (by kernel_rfl) (by kernel_rfl) (by kernel_rfl) (by intro _ _ _ h; exact h) (Or.inl ⟨by rfl, ?_⟩) hH ?_
          rotate_left
          · intro w' hSw
            obtain ⟨s0, s1, s2, s3, s4, s5, s6⟩ := hSw
            go_simp
            try with_reducible rfl
          try simp only [Act.put, List.setIfInBounds_toArray, List.set_cons_zero, List.set_cons_succ]
          refine wpAnyL_take (i := 4) (v := ?_) (by simp only [List.getElem?_toArray, List.getElem?_cons_succ, List.getElem?_cons_zero]; rfl) (by kernel_rfl) (by kernel_rfl) (by kernel_rfl) (by kernel_rfl) (by intro _ _ _ h; exact h) (Or.inl ⟨by rfl, ?_⟩) hH ?_
          rotate_left
          · intro w' hSw
            obtain ⟨s0, s1, s2, s3, s4, s5, s6⟩ := hSw
            go_simp
            try with_reducible rfl
          try simp only [Act.put, List.setIfInBounds_toArray, List.set_cons_zero, List.set_cons_succ]
          refine wpAnyL_take (i := 5) (v := ?_) (by simp only [List.getElem?_toArray, List.getElem?_cons_succ, List.getElem?_cons_zero]; rfl) (by kernel_rfl) (by kernel_rfl) (by kernel_rfl) (by kernel_rfl) (by intro _ _ _ h; exact h) (Or.inl ⟨by rfl, ?_⟩) hH ?_
          rotate_left
          · intro w' hSw
            obtain ⟨s0, s1, s2, s3, s4, s5, s6⟩ := hSw
            go_simp
            try with_reducible rfl
          try simp only [Act.put, List.setIfInBounds_toArray, List.set_cons_zero, List.set_cons_succ]
          refine wpAnyL_take (i := 6) (v := ?_) (by simp only [List.getElem?_toArray, List.getElem?_cons_succ, List.getElem?_cons_zero]; rfl) (by kernel_rfl) (by kernel_rfl) (by kernel_rfl) (by kernel_rfl) (by intro _ _ _ h; exact h) (Or.inl ⟨by rfl, ?_⟩) hH ?_
          rotate_left
          · intro w' hSw
            obtain ⟨s0, s1, s2, s3, s4, s5, s6⟩ := hSw
            go_simp
            try with_reducible rfl
          try simp only [Act.put, List.setIfInBounds_toArray, List.set_cons_zero, List.set_cons_succ]
          refine wpAnyL_take (i := 7) (v := ?_) (by simp only [List.getElem?_toArray, List.getElem?_cons_succ, List.getElem?_cons_zero]; rfl) (by kernel_rfl) (by kernel_rfl) (by kernel_rfl) (by kernel_rfl) (by intro _ _ _ h; exact h) (Or.inl ⟨by rfl, ?_⟩) hH ?_
          rotate_left
          · intro w' hSw
            obtain ⟨s0, s1, s2, s3, s4, s5, s6⟩ := hSw
            go_simp
            try with_reducible rfl
          try simp only [Act.put, List.setIfInBounds_toArray, List.set_cons_zero, List.set_cons_succ]
          refine wpAnyL_take (i := 8) (v := ?_) (by simp only [List.getElem?_toArray, List.getElem?_cons_succ, List.getElem?_cons_zero]; rfl) (by kernel_rfl) (by kernel_rfl) (by kernel_rfl) (by kernel_rfl) (by intro _ _ _ h; exact h) (Or.inl ⟨by rfl, ?_⟩) hH ?_
          rotate_left
          · intro w' hSw
            obtain ⟨s0, s1, s2, s3, s4, s5, s6⟩ := hSw
            go_simp
            try with_reducible rfl
          try simp only [Act.put, List.setIfInBounds_toArray, List.set_cons_zero, List.set_cons_succ]
          refine wpAnyL_take (i := 9) (v := ?_) (by simp only [List.getElem?_toArray, List.getElem?_cons_succ, List.getElem?_cons_zero]; rfl) (by kernel_rfl) (by kernel_rfl) (by kernel_rfl) (by kernel_rfl) (by intro _ _ _ h; exact h) (Or.inl ⟨by rfl, ?_⟩) hH ?_
          rotate_left
          · intro w' hSw
            obtain ⟨s0, s1, s2, s3, s4, s5, s6⟩ := hSw
            go_simp
            try with_reducible rfl
          try simp only [Act.put, List.setIfInBounds_toArray, List.set_cons_zero, List.set_cons_succ]
          refine wpAnyL_take (i := 10) (v := ?_) (by simp only [List.getElem?_toArray, List.getElem?_cons_succ, List.getElem?_cons_zero]; rfl) (by kernel_rfl) (by kernel_rfl) (by kernel_rfl) (by kernel_rfl) (by intro _ _ _ h; exact h) (Or.inl ⟨by rfl, ?_⟩) hH ?_
          rotate_left
          · intro w' hSw
            obtain ⟨s0, s1, s2, s3, s4, s5, s6⟩ := hSw
            go_simp
            try with_reducible rfl
          try simp only [Act.put, List.setIfInBounds_toArray, List.set_cons_zero, List.set_cons_succ]
          refine wpAnyL_take (i := 13) (v := ?_) (by simp only [List.getElem?_toArray, List.getElem?_cons_succ, List.getElem?_cons_zero]; rfl) (by kernel_rfl) (by kernel_rfl) (by kernel_rfl) (by kernel_rfl) (by intro _ _ _ h; exact h) (Or.inl ⟨by rfl, ?_⟩) hH ?_
          rotate_left
          · intro w' hSw
            obtain ⟨s0, s1, s2, s3, s4, s5, s6⟩ := hSw
            go_simp
            try with_reducible rfl
          try simp only [Act.put, List.setIfInBounds_toArray, List.set_cons_zero, List.set_cons_succ]
          refine wpAnyL_one (i := 11) (o := _) (by kernel_rfl) (by simp only [List.getElem?_toArray, List.getElem?_cons_succ, List.getElem?_cons_zero]; rfl) (by decide) (fun K hK => ?_)
          go_simp
          go_at_call 46
          refine (HBI.out _).mono ?_
          rintro e wM ⟨rfl, rfl⟩
          refine hK.out _ _ hH ?_
          clear hK K
          try simp only [Act.put, List.setIfInBounds_toArray, List.set_cons_zero, List.set_cons_succ]
          refine wpAnyL_take (i := 12) (v := ?_) (by simp only [List.getElem?_toArray, List.getElem?_cons_succ, List.getElem?_cons_zero]; rfl) (by kernel_rfl) (by kernel_rfl) (by kernel_rfl) (by kernel_rfl) (by intro _ _ _ h; exact h) (Or.inl ⟨by rfl, ?_⟩) hH ?_
          rotate_left
          · intro w' hSw
            obtain ⟨s0, s1, s2, s3, s4, s5, s6⟩ := hSw
            go_simp
            try with_reducible rfl
          try simp only [Act.put, List.setIfInBounds_toArray, List.set_cons_zero, List.set_cons_succ]
          refine wpAnyL_one (i := 14) (o := _) (by kernel_rfl) (by simp only [List.getElem?_toArray, List.getElem?_cons_succ, List.getElem?_cons_zero]; rfl) (by decide) (fun K hK => ?_)
          go_simp
          go_at_call 42
          rw [HW1.out]
          refine HC.out.mono ?_
          intro e w2 hP
          obtain ⟨T, x1, y1, x2, y2, rfl, L2, hlb2, L2a, K2, K2a, g', cap', w3, HRUN, L3, Z3, K3, HN, HBX2⟩ := HAP.out e w2 hP
          clear hP hH
          have hH := (show (fun (w' : World) => w'.cell? ⟨w.heap.size + 1 + 1, 3, none⟩ = some v ∧ w'.cell? ⟨w.heap.size, 0, none⟩ = some (.int .i64 k) ∧ w'.cell? ⟨w.heap.size, 3, none⟩ = some (.slice (some ⟨bq, o, none⟩) f.len kc) ∧ w'.cell? ⟨bq, o + j * 4, none⟩ = some (.int .i64 k') ∧ w'.cell? ⟨bq, o + j * 4 + 1, none⟩ = some (.int .i64 n') ∧ w'.cell? ⟨bq, o + j * 4 + 2, none⟩ = some (.slice la' ls'.len lc') ∧ w'.cell? ⟨bq, o + j * 4 + 3, none⟩ = some (.slice ka' ks.len kc')) w2 from ⟨L2, rqHeld K2.out hbN c0 c3 e0 e1 e2 e3⟩)
          refine hK.out _ _ hH ?_
          clear hK K
          try simp only [Act.put, List.setIfInBounds_toArray, List.set_cons_zero, List.set_cons_succ]
          refine wpAnyL_one (i := 15) (o := _) (by kernel_rfl) (by simp only [List.getElem?_toArray, List.getElem?_cons_succ, List.getElem?_cons_zero]; rfl) (by decide) (fun K hK => ?_)
          go_simp
          clear hH
          have hH := (show (fun (w' : World) => w'.cell? ⟨w.heap.size + 1 + 1, 3, none⟩ = some v ∧ w'.cell? ⟨w.heap.size, 0, none⟩ = some (.int .i64 k) ∧ w'.cell? ⟨w.heap.size, 3, none⟩ = some (.slice (some ⟨bq, o, none⟩) f.len kc) ∧ w'.cell? ⟨bq, o + j * 4, none⟩ = some (.int .i64 k') ∧ w'.cell? ⟨bq, o + j * 4 + 1, none⟩ = some (.int .i64 n') ∧ w'.cell? ⟨bq, o + j * 4 + 2, none⟩ = some (.slice la' ls'.len lc') ∧ w'.cell? ⟨bq, o + j * 4 + 3, none⟩ = some (.slice ka' ks.len kc')) _ from ⟨L2a, rqHeld K2a.out hbN c0 c3 e0 e1 e2 e3⟩)
          refine hK.out _ _ hH ?_
          clear hK K
          try simp only [Act.put, List.setIfInBounds_toArray, List.set_cons_zero, List.set_cons_succ]
          refine wpAnyL_one (i := 16) (o := _) (by kernel_rfl) (by simp only [List.getElem?_toArray, List.getElem?_cons_succ, List.getElem?_cons_zero]; rfl) (by decide) (fun K hK => ?_)
          refine step_append (by rfl) _ _ _ (by rfl) (by rfl) (by rfl) HRUN.out ?_
          clear hH
          have hH := (show (fun (w' : World) => w'.cell? ⟨w.heap.size + 1 + 1, 3, none⟩ = some v ∧ w'.cell? ⟨w.heap.size, 0, none⟩ = some (.int .i64 k) ∧ w'.cell? ⟨w.heap.size, 3, none⟩ = some (.slice (some ⟨bq, o, none⟩) f.len kc) ∧ w'.cell? ⟨bq, o + j * 4, none⟩ = some (.int .i64 k') ∧ w'.cell? ⟨bq, o + j * 4 + 1, none⟩ = some (.int .i64 n') ∧ w'.cell? ⟨bq, o + j * 4 + 2, none⟩ = some (.slice la' ls'.len lc') ∧ w'.cell? ⟨bq, o + j * 4 + 3, none⟩ = some (.slice ka' ks.len kc')) w3 from ⟨L3, rqHeld K3.out hbN c0 c3 e0 e1 e2 e3⟩)
          refine hK.out _ _ hH ?_
          clear hK K
          try simp only [Act.put, List.setIfInBounds_toArray, List.set_cons_zero, List.set_cons_succ]
          refine wpAnyL_take (i := 17) (v := ?_) (by simp only [List.getElem?_toArray, List.getElem?_cons_succ, List.getElem?_cons_zero]; rfl) (by kernel_rfl) (by kernel_rfl) (by kernel_rfl) (by kernel_rfl) (by intro _ _ _ h; exact h) (Or.inl ⟨by rfl, ?_⟩) hH ?_
          rotate_left
          · intro w' hSw
            obtain ⟨s0, s1, s2, s3, s4, s5, s6⟩ := hSw
            go_simp
            try with_reducible rfl
          try simp only [Act.put, List.setIfInBounds_toArray, List.set_cons_zero, List.set_cons_succ]
          refine wpAnyL_last (o := _) (by kernel_rfl) (by simp only [List.getElem?_toArray, List.getElem?_cons_succ, List.getElem?_cons_zero]; rfl) (fun K hK => ?_)
          go_simp
          refine hK.out _ _ ?_
          clear hK K hH
          try simp only [Act.put, List.setIfInBounds_toArray, List.set_cons_zero, List.set_cons_succ]
          refine wpAnyL_done (by kernel_rfl) ?_ _
          go_wp2_with fail
          go_roundw
          case rel => exact ⟨j + 1, _, r', _, by go_num, HSN, Lib.hid (by rw [Ft.app_len, HJ.out]; rfl), HN, HBX2⟩
          case measure => simp [intOf]; omega
end Go.Proofs.Ytokckghedpdfiaa
