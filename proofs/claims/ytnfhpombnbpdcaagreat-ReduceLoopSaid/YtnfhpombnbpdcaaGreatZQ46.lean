/- Tropn, Trliftq, Tropenq, Tropnq, R5sub2, R5sub3, Qsub, Qright, Qtop, R5sub2q, R5sub3q, Tcrowq, Qsubq, Qtopq, Whm, Whp. No condition but those that stand in each statement. -/
import Derived.Test.YtnfhpombnbpdcaaGreatZQ45
import Derived.Deep.RegionLaw
import Derived.IntWalk
import Derived.Test.YtnfhpombnbpdcaaGreatZQ37
import Derived.Test.YtnfhpombnbpdcaaGreatZQ0
import Derived.Test.YtnfhpombnbpdcaaGreatZQ12
import Derived.Deep.CutBlock
import Derived.Test.YtnfhpombnbpdcaaGreatZQ29
import Derived.Test.YtnfhpombnbpdcaaGreatZQ28
import Derived.Test.YtnfhpombnbpdcaaGreatZQ30
namespace Go.Proofs.YtnfhpombnbpdcaaGreat
open Go.RowKit
theorem lvsz_mono8 {N M : Nat} (h : N ≤ M) : ∀ {f : Ft}, f.lvsz N → f.lvsz M
  | .nil, _ => trivial
  | .cons .., hf => ⟨Nat.le_trans hf.1 h, lvsz_mono8 h hf.2.1, lvsz_mono8 h hf.2.2⟩
theorem sh_small8 {k n : Int} {ls : Fo} {f : Ft} (h : shB k n ls f = true) : f.size ≤ 1000 ∧ f.lvsz 1000 ∧ ls.size ≤ 1000 := by
  obtain ⟨h1, h2, h3⟩ := shB_parts h
  exact ⟨by omega, lvsz_mono8 (by omega) (tAll_lvsz h3), by have := tfits_lvsz h2; omega⟩
theorem openA_no8 {t u : Tm} (h : t.sh = false ∨ u.sh = false) : openA t u = (tZ, 1) := by
  unfold openA; rw [if_neg]
  rintro ⟨h1, h2⟩
  rcases h with h | h
  · rw [h] at h1; cases h1
  · rw [h] at h2; cases h2
theorem openA_yes8 {t u : Tm} (h : t.sh = true) (h1 : u.sh = true) : openA t u = fin1 (rep1 (gO u) t.k t.n t.ls t.ks 0) := by
  unfold openA; rw [if_pos ⟨h, h1⟩]
end Go.Proofs.YtnfhpombnbpdcaaGreat
namespace Go.Proofs.YtnfhpombnbpdcaaGreat
open Go.RowKit
set_option maxRecDepth 100000 in
set_option maxHeartbeats 8000000 in
theorem r13lift_anyQ (by' : Int) (hy0 : 0 ≤ by') (hy1 : by' ≤ 2000) (s : Nat) : ∀ (f : Ft), f.size < s → f.size ≤ 1000 → ∀ (k n fr : Int) (ls : Fo) (la ka : Option Addr) (lc kc B : Nat) (Bl : Nat → Nat) (Bh : Nat) (w : World), wf1 1030 k n ls f → 0 ≤ fr → fr + f.size ≤ 4000 → SlIn w (fun b => b < B ∨ (Bl b = 0 ∧ b < Bh)) ls la lc → TlIn w (fun b => b < B ∨ (Bl b = 0 ∧ b < Bh)) f ka kc → (B ≤ w.heap.size ∧ Bh ≤ w.heap.size) →
    Calls Tryz.prog 89 #[.agg #[.int .i64 k, .int .i64 n, .slice la ls.len lc, .slice ka f.len kc], .int .i64 fr, .int .i64 by'] w (TmPostQ B Bl Bh (lf1 by' k n ls f fr) w) := by
  induction s with
  | zero => intro f hs; omega
  | succ s ih =>
    intro f hs hsz k n fr ls la ka lc kc B Bl Bh w hwf hf0 hf1 hls hsl hB
    have IH := Lib.hid ih
    clear ih
    have hlen := hsl.len
    by_cases hk : k = 1
    · subst hk
      obtain ⟨rfl, rfl, hn0, hn1⟩ := wf1_leaf hwf
      have HLS := Lib.hid hls
      by_cases hc : fr ≤ n
      · have e : lf1 by' 1 n .nil .nil fr = ⟨1, n + by', .nil, .nil⟩ := by unfold lf1; rw [if_pos ⟨rfl, hc⟩]; rfl
        rw [e]
        obtain ⟨q0, q1, q2, q3⟩ := cells4 ((heap_old (((w.alloc (.cells #[.int .i64 1, .int .i64 n, .slice la 0 lc, .slice ka 0 kc] 30)).alloc (.cells #[.int .i64 0, .int .i64 0, .slice none 0 0, .slice none 0 0] 30))) (.cells #[.int .i64 1, .int .i64 (n + by'), .slice la 0 lc, .slice none 0 0] 30) (by simp; omega : w.heap.size < _)).trans ((heap_old _ _ (by simp)).trans (heap_new _ _)))
        clear e hls hsl hwf IH
        simp only [Ft.len, Fo.len]
        go_enter Tryz.func89, Tryz.ntmps89
        go_wp2_with fail
        go_loopw [8] (fun i wr => i = .int .i64 0 ∧ wr = (((w.alloc (.cells #[.int .i64 1, .int .i64 n, .slice la 0 lc, .slice ka 0 kc] 30)).alloc (.cells #[.int .i64 0, .int .i64 0, .slice none 0 0, .slice none 0 0] 30)).alloc (.cells #[.int .i64 1, .int .i64 (n + by'), .slice la 0 lc, .slice none 0 0] 30))) (fun _ _ => 0)
        case atStart => exact ⟨rfl, rfl⟩
        case round =>
          obtain ⟨rfl, rfl⟩ := hrel
          go_wp2_with fail
          refine bodyPost_ret (v := .agg #[.int .i64 1, .int .i64 (n + by'), .slice la 0 lc, .slice none 0 0]) (by simp [results, Tryz.results89, go_sem]) rfl ?_
          exact ⟨la, lc, none, 0, rfl, ⟨HLS.out.1, HLS.out.2.1, HLS.out.2.2.1, fun h => by simp [Fo.len] at h⟩, TlIn.none _ _, (((Below.refl _ _).alloc (Nat.le_refl _) _).alloc (by simp) _).alloc (by simp; omega) _⟩
      · have e : lf1 by' 1 n .nil .nil fr = ⟨1, n, .nil, .nil⟩ := by unfold lf1; rw [if_neg (fun h => hc h.2)]; rfl
        rw [e]
        obtain ⟨q0, q1, q2, q3⟩ := cells4 ((heap_old (((w.alloc (.cells #[.int .i64 1, .int .i64 n, .slice la 0 lc, .slice ka 0 kc] 30)).alloc (.cells #[.int .i64 0, .int .i64 0, .slice none 0 0, .slice none 0 0] 30))) (.cells #[.int .i64 1, .int .i64 n, .slice la 0 lc, .slice none 0 0] 30) (by simp; omega : w.heap.size < _)).trans ((heap_old _ _ (by simp)).trans (heap_new _ _)))
        have d1 : decide (fr ≤ n) = false := decide_eq_false hc
        clear e hls hsl hwf IH
        simp only [Ft.len, Fo.len]
        go_enter Tryz.func89, Tryz.ntmps89
        go_wp2_with fail
        go_loopw [8] (fun i wr => i = .int .i64 0 ∧ wr = (((w.alloc (.cells #[.int .i64 1, .int .i64 n, .slice la 0 lc, .slice ka 0 kc] 30)).alloc (.cells #[.int .i64 0, .int .i64 0, .slice none 0 0, .slice none 0 0] 30)).alloc (.cells #[.int .i64 1, .int .i64 n, .slice la 0 lc, .slice none 0 0] 30))) (fun _ _ => 0)
        case atStart => exact ⟨rfl, rfl⟩
        case round =>
          obtain ⟨rfl, rfl⟩ := hrel
          go_wp2_with fail
          refine bodyPost_ret (v := .agg #[.int .i64 1, .int .i64 n, .slice la 0 lc, .slice none 0 0]) (by simp [results, Tryz.results89, go_sem]) rfl ?_
          exact ⟨la, lc, none, 0, rfl, ⟨HLS.out.1, HLS.out.2.1, HLS.out.2.2.1, fun h => by simp [Fo.len] at h⟩, TlIn.none _ _, (((Below.refl _ _).alloc (Nat.le_refl _) _).alloc (by simp) _).alloc (by simp; omega) _⟩
    · have hk' : (k == 1) = false := beq_eq_false_iff_ne.2 hk
      have e : lf1 by' k n ls f fr = ⟨k, n, ls, lfF by' f k 0 fr⟩ := by unfold lf1; rw [if_neg (fun h => hk h.1)]
      rw [e]
      have HW := Lib.hid hwf.2.2
      have HLS := Lib.hid hls
      have HSL := Lib.hid hsl
      have HS := Lib.hid (TrQQ.start1 (Bl := Bl) (k := k) (n := n) (ls := ls) (la := la) (lc := lc) (.cells #[.int .i64 k, .int .i64 n, .slice la ls.len lc, .slice ka f.len kc] 30) hB)
      have HBX : Hid ((((w.alloc (.cells #[.int .i64 k, .int .i64 n, .slice la ls.len lc, .slice ka f.len kc] 30)).alloc (.cells #[.int .i64 0, .int .i64 0, .slice none 0 0, .slice none 0 0] 30)).alloc (.cells #[.int .i64 k, .int .i64 n, .slice la ls.len lc, .slice none 0 0] 30)).heap[w.heap.size]? = some (.cells #[.int .i64 k, .int .i64 n, .slice la ls.len lc, .slice ka f.len kc] 30 (0, 0))) := Lib.hid ((heap_old _ _ (by simp; omega)).trans ((heap_old _ _ (by simp)).trans (heap_new _ _)))
      clear e hk hwf hls hsl
      go_enter Tryz.func89, Tryz.ntmps89
      go_wp2_with fail
      go_loopw [8] (fun jv wr => ∃ (j : Nat) (H rest : Ft) (v : Value), jv = .int .i64 j ∧ Hid (f = H.app rest) ∧ Hid (H.len = j) ∧ Hid (TrQQ w (w.heap.size + 1) (w.heap.size + 1 + 1) B Bl Bh k n ls la lc (lfF by' H k 0 fr) v wr) ∧ Hid (wr.heap[w.heap.size]? = some (.cells #[.int .i64 k, .int .i64 n, .slice la ls.len lc, .slice ka f.len kc] 30 (0, 0)))) (fun jv _ => f.len - (intOf jv).toNat)
      case atStart => exact ⟨0, .nil, f, _, rfl, Lib.hid rfl, Lib.hid rfl, HS, HBX⟩
      case round =>
        obtain ⟨j, H, rest, v, rfl, hf, hj, hR, hbx⟩ := hrel
        obtain ⟨⟨g0, g1, g2, g3, gz⟩, ⟨q0, q1, q2, q3, qz⟩, hob, hwr⟩ := hR.out.facts
        obtain ⟨c0, _, _, c3⟩ := cells4 hbx.out
        cases rest with
        | nil =>
          have hjl : ¬ (j : Int) < (f.len : Int) := by rw [hf.out, Ft.app_nil, hj.out]; omega
          have dj : decide ((j : Int) < (f.len : Int)) = false := by simpa using hjl
          obtain ⟨x, c, rfl, hE⟩ := hR.out.done HLS.out
          have HE := Lib.hid hE
          have HF : Hid (f = H) := Lib.hid (by rw [hf.out, Ft.app_nil])
          clear hE hR hf
          go_wp2_with fail
          refine bodyPost_ret (v := .agg #[.int .i64 k, .int .i64 n, .slice la ls.len lc, .slice x (lfF by' H k 0 fr).len c]) (by simp [results, Tryz.results89, go_sem, g0, g1, g2, g3]) rfl ?_
          rw [HF.out]
          exact HE.out
        | cons k' n' ls' ks r' =>
          have hjn : j < f.len := by rw [hf.out, Ft.app_len, hj.out]; simp [Ft.len]
          have hjl : (j : Int) < (f.len : Int) := by omega
          obtain ⟨bq, o, rfl, hbB, hf0'⟩ := HSL.out.some (by omega)
          have hfa : FtIn w (fun b => b < B ∨ (Bl b = 0 ∧ b < Bh)) (.cons k' n' ls' ks r') bq (o + j * 4) := by
            have h1 := hf0'
            rw [hf.out] at h1
            rw [← hj.out]
            exact FtIn.behind H _ bq o h1
          obtain ⟨e0, e1, ⟨la', lc', e2, hls'⟩, ⟨ka', kc', e3, hsl'⟩, _⟩ := (hfa.belowQ hwr hB _ _ _ hbB).first
          have hfs : f.size = H.size + (ks.size + r'.size + 1) := by rw [hf.out, Ft.app_size]; rfl
          have hks : ks.size < s := by omega
          have hwk' : wf1 1030 k' n' ls' ks := by
            have h1 := HW.out
            rw [hf.out, wfF_app] at h1
            exact (wfF_parts h1.2).1
          have hbi := bindK_le k j
          have hBr : (B ≤ wr.heap.size ∧ Bh ≤ wr.heap.size) := leQ hB hwr.size
          have hbk : Below wr.heap.size wr wr.drew := (Below.refl _ _).drew
          have HC : Hid (Calls Tryz.prog 89 #[.agg #[.int .i64 k', .int .i64 n', .slice la' ls'.len lc', .slice ka' ks.len kc'], .int .i64 (fr + bindK k j), .int .i64 by'] wr.drew (TmPostQ B Bl Bh (lf1 by' k' n' ls' ks (fr + bindK k j)) wr.drew)) :=
            Lib.hid (IH.out ks hks (by omega) k' n' (fr + bindK k j) ls' la' ka' lc' kc' B Bl Bh _ hwk' (by omega) (by omega) (hls'.belowQ hbk hBr) (hsl'.belowQ hbk hBr) (leQ hBr hbk.size))
          have hGl : (lfF by' H k 0 fr).len = j := by rw [lfF_len, hj.out]
          have hT' : lfF by' (H.app (.cons k' n' ls' ks .nil)) k 0 fr = (lfF by' H k 0 fr).app (lf1 by' k' n' ls' ks (fr + bindK k j)).one := by
            rw [lfF_app, lfF_cons, hj.out, Nat.zero_add]; rfl
          have HAP : Hid (∀ (e : Ending) (w2 : World), TmPostQ B Bl Bh (lf1 by' k' n' ls' ks (fr + bindK k j)) wr.drew e w2 → ∃ (T : Tm) (x1 : Option Addr) (y1 : Nat) (x2 : Option Addr) (y2 : Nat), e = .returned (.agg #[.int .i64 T.k, .int .i64 T.n, .slice x1 T.ls.len y1, .slice x2 T.ks.len y2]) ∧
              w2.cell? ⟨w.heap.size + 1 + 1, 3, none⟩ = some v ∧ w.heap.size + 1 + 1 < w2.heap.size ∧ (w2.alloc (.cells #[.int .i64 T.k, .int .i64 T.n, .slice x1 T.ls.len y1, .slice x2 T.ks.len y2] 30)).cell? ⟨w.heap.size + 1 + 1, 3, none⟩ = some v ∧
              Hid (∀ q, q ≤ w.heap.size → w2.heap[q]? = wr.heap[q]?) ∧ Hid (∀ q, q ≤ w.heap.size → (w2.alloc (.cells #[.int .i64 T.k, .int .i64 T.n, .slice x1 T.ls.len y1, .slice x2 T.ks.len y2] 30)).heap[q]? = wr.heap[q]?) ∧
              ∃ g' cap' w3, Hid ((Builtin.append_ #[28, 28] 28 #[v, .slice (some ⟨w2.heap.size, 0, none⟩) 1 1]).run Tryz.prog (w2.alloc (.cells #[.int .i64 T.k, .int .i64 T.n, .slice x1 T.ls.len y1, .slice x2 T.ks.len y2] 30)) = .ok (.slice (some ⟨g', 0, none⟩) (j + 1) cap') w3) ∧
                w3.cell? ⟨w.heap.size + 1 + 1, 3, none⟩ = some v ∧ (∀ o, w3.frozen? ⟨w.heap.size + 1 + 1, o, none⟩ = false) ∧ Hid (∀ q, q ≤ w.heap.size → w3.heap[q]? = wr.heap[q]?) ∧
                Hid (TrQQ w (w.heap.size + 1) (w.heap.size + 1 + 1) B Bl Bh k n ls la lc (lfF by' (H.app (.cons k' n' ls' ks .nil)) k 0 fr) (.slice (some ⟨g', 0, none⟩) (j + 1) cap') (w3.setCell ⟨w.heap.size + 1 + 1, 3, none⟩ (.slice (some ⟨g', 0, none⟩) (j + 1) cap'))) ∧ Hid ((w3.setCell ⟨w.heap.size + 1 + 1, 3, none⟩ (.slice (some ⟨g', 0, none⟩) (j + 1) cap')).heap[w.heap.size]? = some (.cells #[.int .i64 k, .int .i64 n, .slice la ls.len lc, .slice (some ⟨bq, o, none⟩) f.len kc] 30 (0, 0)))) := Lib.hid (by
            rintro e w2 ⟨x1, y1, x2, y2, rfl, t0, t1, t2⟩
            have hG1 : (lfF by' H k 0 fr).len ≤ 1000 := by rw [hGl]; have h1 := Ft.len_le_size f; omega
            have t4 : Below wr.heap.size wr w2 := Below.trans (Below.refl _ _).drew t2
            have hz4 := t4.size
            have hw4 := hwr.size
            obtain ⟨L2, hlb2, g', cap', w3, hrun, L3, Z3, hq, hN⟩ := TrQQ.next hR.out hG1 t0 t1 t4
            rw [hGl] at hrun hN
            rw [hT']
            refine ⟨_, x1, y1, x2, y2, rfl, L2, hlb2, (World.cell?_of_block (w := w2) (a := ⟨w.heap.size + 1 + 1, 3, none⟩) (heap_old w2 _ hlb2)).trans L2, Lib.hid (fun q hq => t4.block q (by omega)), Lib.hid (fun q hq => (heap_old w2 _ (by omega)).trans (t4.block q (by omega))), g', cap', w3, Lib.hid hrun, L3, Z3, Lib.hid (fun q h => hq q (by omega)), Lib.hid hN, Lib.hid ?_⟩
            have nq : w.heap.size ≠ w.heap.size + 1 + 1 := by omega
            rw [Below.heap_setCell _ _ _ _ nq]
            exact (hq _ (by omega)).trans hbx.out)
          have HSN : Hid (f = (H.app (.cons k' n' ls' ks .nil)).app r') := Lib.hid (by rw [hf.out, Ft.app_assoc]; rfl)
          have HJ := Lib.hid hj.out
          have HW1 : Hid (IntKind.i64.wrap (fr + bindK k j) = fr + bindK k j) := Lib.hid (IntWalk.i64_in _ (by omega))
          have HBI : Hid (∀ W, Calls Tryz.prog 88 #[.int .i64 k, .int .i64 j] W fun e w' => e = .returned (.int .i64 (bindK k j)) ∧ w' = W) := Lib.hid (r13binds_any k j)
          have hbN : bq ≤ w.heap.size := by omega
          generalize bindK k j = Y at HC HAP HW1 HBI
          generalize lf1 by' k' n' ls' ks (fr + Y) = TT at HC HAP
          clear hf hR hfa hf0' hGl hT' g0 g1 g2 g3 gz q0 q1 q2 qz hls' hsl' hwk' hbi hfs hbk
          go_wp2_with fail
          refine wp_region_L (fun (w' : World) => w'.cell? ⟨w.heap.size + 1 + 1, 3, none⟩ = some v ∧ w'.cell? ⟨w.heap.size, 0, none⟩ = some (.int .i64 k) ∧ w'.cell? ⟨w.heap.size, 3, none⟩ = some (.slice (some ⟨bq, o, none⟩) f.len kc) ∧ w'.cell? ⟨bq, o + j * 4, none⟩ = some (.int .i64 k') ∧ w'.cell? ⟨bq, o + j * 4 + 1, none⟩ = some (.int .i64 n') ∧ w'.cell? ⟨bq, o + j * 4 + 2, none⟩ = some (.slice la' ls'.len lc') ∧ w'.cell? ⟨bq, o + j * 4 + 3, none⟩ = some (.slice ka' ks.len kc')) 18 (by kernel_rfl) ?_
          have hH := (show (fun (w' : World) => w'.cell? ⟨w.heap.size + 1 + 1, 3, none⟩ = some v ∧ w'.cell? ⟨w.heap.size, 0, none⟩ = some (.int .i64 k) ∧ w'.cell? ⟨w.heap.size, 3, none⟩ = some (.slice (some ⟨bq, o, none⟩) f.len kc) ∧ w'.cell? ⟨bq, o + j * 4, none⟩ = some (.int .i64 k') ∧ w'.cell? ⟨bq, o + j * 4 + 1, none⟩ = some (.int .i64 n') ∧ w'.cell? ⟨bq, o + j * 4 + 2, none⟩ = some (.slice la' ls'.len lc') ∧ w'.cell? ⟨bq, o + j * 4 + 3, none⟩ = some (.slice ka' ks.len kc')) wr.drew from ⟨q3, c0, c3, e0, e1, e2, e3⟩)
          refine tkL 0 ?_ hH ?_ ?_
          rotate_left
          · intro w' hSw
            obtain ⟨s0, s1, s2, s3, s4, s5, s6⟩ := hSw
            go_simp
            try with_reducible rfl
          refine tkL 1 ?_ hH ?_ ?_
          rotate_left
          · intro w' hSw
            obtain ⟨s0, s1, s2, s3, s4, s5, s6⟩ := hSw
            go_simp
            try with_reducible rfl
          refine tkL 2 ?_ hH ?_ ?_
          rotate_left
          · intro w' hSw
            obtain ⟨s0, s1, s2, s3, s4, s5, s6⟩ := hSw
            go_simp
            try with_reducible rfl
          refine tkL 3 ?_ hH ?_ ?_
          rotate_left
          · intro w' hSw
            obtain ⟨s0, s1, s2, s3, s4, s5, s6⟩ := hSw
            go_simp
            try with_reducible rfl
          refine tkL 4 ?_ hH ?_ ?_
          rotate_left
          · intro w' hSw
            obtain ⟨s0, s1, s2, s3, s4, s5, s6⟩ := hSw
            go_simp
            try with_reducible rfl
          refine tkL 5 ?_ hH ?_ ?_
          rotate_left
          · intro w' hSw
            obtain ⟨s0, s1, s2, s3, s4, s5, s6⟩ := hSw
            go_simp
            try with_reducible rfl
          refine tkL 6 ?_ hH ?_ ?_
          rotate_left
          · intro w' hSw
            obtain ⟨s0, s1, s2, s3, s4, s5, s6⟩ := hSw
            go_simp
            try with_reducible rfl
          refine tkL 7 ?_ hH ?_ ?_
          rotate_left
          · intro w' hSw
            obtain ⟨s0, s1, s2, s3, s4, s5, s6⟩ := hSw
            go_simp
            try with_reducible rfl
          refine tkL 8 ?_ hH ?_ ?_
          rotate_left
          · intro w' hSw
            obtain ⟨s0, s1, s2, s3, s4, s5, s6⟩ := hSw
            go_simp
            try with_reducible rfl
          refine tkL 9 ?_ hH ?_ ?_
          rotate_left
          · intro w' hSw
            obtain ⟨s0, s1, s2, s3, s4, s5, s6⟩ := hSw
            go_simp
            try with_reducible rfl
          refine tkL 10 ?_ hH ?_ ?_
          rotate_left
          · intro w' hSw
            obtain ⟨s0, s1, s2, s3, s4, s5, s6⟩ := hSw
            go_simp
            try with_reducible rfl
          refine tkL 13 ?_ hH ?_ ?_
          rotate_left
          · intro w' hSw
            obtain ⟨s0, s1, s2, s3, s4, s5, s6⟩ := hSw
            go_simp
            try with_reducible rfl
          refine oneL 11 (fun K hK => ?_)
          go_simp
          go_at_call 88
          refine (HBI.out _).mono ?_
          rintro e wM ⟨rfl, rfl⟩
          refine hK.out _ _ hH ?_
          clear hK K
          refine tkL 12 ?_ hH ?_ ?_
          rotate_left
          · intro w' hSw
            obtain ⟨s0, s1, s2, s3, s4, s5, s6⟩ := hSw
            go_simp
            try with_reducible rfl
          refine oneL 14 (fun K hK => ?_)
          go_simp
          go_at_call 89
          rw [HW1.out]
          refine HC.out.mono ?_
          intro e w2 hP
          obtain ⟨T, x1, y1, x2, y2, rfl, L2, hlb2, L2a, K2, K2a, g', cap', w3, HRUN, L3, Z3, K3, HN, HBX2⟩ := HAP.out e w2 hP
          clear hP hH
          have hH := (show (fun (w' : World) => w'.cell? ⟨w.heap.size + 1 + 1, 3, none⟩ = some v ∧ w'.cell? ⟨w.heap.size, 0, none⟩ = some (.int .i64 k) ∧ w'.cell? ⟨w.heap.size, 3, none⟩ = some (.slice (some ⟨bq, o, none⟩) f.len kc) ∧ w'.cell? ⟨bq, o + j * 4, none⟩ = some (.int .i64 k') ∧ w'.cell? ⟨bq, o + j * 4 + 1, none⟩ = some (.int .i64 n') ∧ w'.cell? ⟨bq, o + j * 4 + 2, none⟩ = some (.slice la' ls'.len lc') ∧ w'.cell? ⟨bq, o + j * 4 + 3, none⟩ = some (.slice ka' ks.len kc')) w2 from ⟨L2, rqHeld K2.out hbN c0 c3 e0 e1 e2 e3⟩)
          refine hK.out _ _ hH ?_
          clear hK K
          refine oneL 15 (fun K hK => ?_)
          go_simp
          clear hH
          have hH := (show (fun (w' : World) => w'.cell? ⟨w.heap.size + 1 + 1, 3, none⟩ = some v ∧ w'.cell? ⟨w.heap.size, 0, none⟩ = some (.int .i64 k) ∧ w'.cell? ⟨w.heap.size, 3, none⟩ = some (.slice (some ⟨bq, o, none⟩) f.len kc) ∧ w'.cell? ⟨bq, o + j * 4, none⟩ = some (.int .i64 k') ∧ w'.cell? ⟨bq, o + j * 4 + 1, none⟩ = some (.int .i64 n') ∧ w'.cell? ⟨bq, o + j * 4 + 2, none⟩ = some (.slice la' ls'.len lc') ∧ w'.cell? ⟨bq, o + j * 4 + 3, none⟩ = some (.slice ka' ks.len kc')) _ from ⟨L2a, rqHeld K2a.out hbN c0 c3 e0 e1 e2 e3⟩)
          refine hK.out _ _ hH ?_
          clear hK K
          refine oneL 16 (fun K hK => ?_)
          refine step_append (by rfl) _ _ _ (by rfl) (by rfl) (by rfl) HRUN.out ?_
          clear hH
          have hH := (show (fun (w' : World) => w'.cell? ⟨w.heap.size + 1 + 1, 3, none⟩ = some v ∧ w'.cell? ⟨w.heap.size, 0, none⟩ = some (.int .i64 k) ∧ w'.cell? ⟨w.heap.size, 3, none⟩ = some (.slice (some ⟨bq, o, none⟩) f.len kc) ∧ w'.cell? ⟨bq, o + j * 4, none⟩ = some (.int .i64 k') ∧ w'.cell? ⟨bq, o + j * 4 + 1, none⟩ = some (.int .i64 n') ∧ w'.cell? ⟨bq, o + j * 4 + 2, none⟩ = some (.slice la' ls'.len lc') ∧ w'.cell? ⟨bq, o + j * 4 + 3, none⟩ = some (.slice ka' ks.len kc')) w3 from ⟨L3, rqHeld K3.out hbN c0 c3 e0 e1 e2 e3⟩)
          refine hK.out _ _ hH ?_
          clear hK K
          refine tkL 17 ?_ hH ?_ ?_
          rotate_left
          · intro w' hSw
            obtain ⟨s0, s1, s2, s3, s4, s5, s6⟩ := hSw
            go_simp
            try with_reducible rfl
          refine lastL (fun K hK => ?_)
          go_simp
          refine hK.out _ _ ?_
          clear hK K hH
          try simp only [Act.put, List.setIfInBounds_toArray, List.set_cons_zero, List.set_cons_succ]
          refine wpAnyL_done (by kernel_rfl) ?_ _
          go_wp2_with fail
          go_roundw
          case rel => exact ⟨j + 1, _, r', _, by go_num, HSN, Lib.hid (by rw [Ft.app_len, HJ.out]; rfl), HN, HBX2⟩
          case measure => simp [intOf]; omega
end Go.Proofs.YtnfhpombnbpdcaaGreat
namespace Go.Proofs.YtnfhpombnbpdcaaGreat
open Go.RowKit
set_option maxRecDepth 100000 in
set_option maxHeartbeats 8000000 in
theorem r13open_anyQ (U : Tm) (hU : wf1 1030 U.k U.n U.ls U.ks) (hUs : U.ks.size ≤ 1000) (s : Nat) : ∀ (f : Ft), f.size < s → f.size ≤ 1000 → ∀ (k n at' : Int) (ls : Fo) (la ka ua va : Option Addr) (lc kc uc vc B : Nat) (Bl : Nat → Nat) (Bh : Nat) (w : World), wf1 1030 k n ls f → 0 ≤ at' → at' + f.size ≤ 2000 → SlIn w (fun b => b < B ∨ (Bl b = 0 ∧ b < Bh)) ls la lc → TlIn w (fun b => b < B ∨ (Bl b = 0 ∧ b < Bh)) f ka kc → SlIn w (fun b => b < B ∨ (Bl b = 0 ∧ b < Bh)) U.ls ua uc → TlIn w (fun b => b < B ∨ (Bl b = 0 ∧ b < Bh)) U.ks va vc → (B ≤ w.heap.size ∧ Bh ≤ w.heap.size) →
    Calls Tryz.prog 68 #[.agg #[.int .i64 k, .int .i64 n, .slice la ls.len lc, .slice ka f.len kc], .int .i64 at', .agg #[.int .i64 U.k, .int .i64 U.n, .slice ua U.ls.len uc, .slice va U.ks.len vc]] w (TmPostQ B Bl Bh (op1 U k n ls f at') w) := by
  induction s with
  | zero => intro f hs; omega
  | succ s ih =>
    intro f hs hsz k n at' ls la ka ua va lc kc uc vc B Bl Bh w hwf hf0 hf1 hls hsl hul hvl hB
    have IH := Lib.hid ih
    clear ih
    have hlen := hsl.len
    by_cases hk : k = 1
    · subst hk
      obtain ⟨rfl, rfl, hn0, hn1⟩ := wf1_leaf hwf
      have HLS := Lib.hid hls
      by_cases hc : n = at'
      · have e : op1 U 1 n .nil .nil at' = lf1 at' U.k U.n U.ls U.ks 0 := by unfold op1; rw [if_pos ⟨rfl, hc⟩]
        rw [e]
        have hb : Below w.heap.size w (((w.alloc (.cells #[.int .i64 1, .int .i64 n, .slice la 0 lc, .slice ka 0 kc] 30)).alloc (.cells #[.int .i64 U.k, .int .i64 U.n, .slice ua U.ls.len uc, .slice va U.ks.len vc] 30)).alloc (.cells #[.int .i64 0, .int .i64 0, .slice none 0 0, .slice none 0 0] 30)) := (((Below.refl _ _).alloc (Nat.le_refl _) _).alloc (by simp) _).alloc (by simp; omega) _
        have HC := Lib.hid (r13lift_anyQ at' hf0 (by simp [Ft.size] at hf1; omega) (U.ks.size + 1) U.ks (Nat.lt_succ_self _) hUs U.k U.n 0 U.ls ua va uc vc B Bl Bh _ hU (by omega) (by omega) (hul.belowQ hb hB) (hvl.belowQ hb hB) (leQ hB hb.size))
        have HR0 : Hid ((((w.alloc (.cells #[.int .i64 1, .int .i64 n, .slice la 0 lc, .slice ka 0 kc] 30)).alloc (.cells #[.int .i64 U.k, .int .i64 U.n, .slice ua U.ls.len uc, .slice va U.ks.len vc] 30)).alloc (.cells #[.int .i64 0, .int .i64 0, .slice none 0 0, .slice none 0 0] 30)).heap[w.heap.size + 1 + 1]? = some (.cells #[.int .i64 0, .int .i64 0, .slice none 0 0, .slice none 0 0] 30 (0, 0))) := Lib.hid (by
          have := heap_second (w.alloc (.cells #[.int .i64 1, .int .i64 n, .slice la 0 lc, .slice ka 0 kc] 30)) (.cells #[.int .i64 U.k, .int .i64 U.n, .slice ua U.ls.len uc, .slice va U.ks.len vc] 30) (.cells #[.int .i64 0, .int .i64 0, .slice none 0 0, .slice none 0 0] 30); simpa using this)
        have HB := Lib.hid hb
        have d1 : (n == at') = true := beq_iff_eq.2 hc
        generalize lf1 at' U.k U.n U.ls U.ks 0 = T at HC
        clear e hb hls hsl hul hvl hwf IH hc
        simp only [Ft.len, Fo.len]
        go_enter Tryz.func68, Tryz.ntmps68
        go_wp2_with fail
        refine HC.out.mono ?_
        rintro e w1 ⟨x1, y1, x2, y2, rfl, hl1, hs1, hb2⟩
        have hR1 := (hb2.block (w.heap.size + 1 + 1) (by simp)).trans HR0.out
        obtain ⟨g0, g1, g2, g3⟩ := cells4 hR1
        have gz := free_of hR1
        have hlt := lt_of_block hR1
        have HE := Lib.hid (TmPostQ.store (B := B) (Bl := Bl) (Bh := Bh) (w := w) (R := w.heap.size + 1 + 1) (T := T) hl1 hs1 (Below.step HB.out hb2 (Nat.le_refl _)) hB (by omega) (by simp))
        clear hl1 hs1 hb2 hR1
        go_wp2_with fail
        refine bodyPost_ret (v := .agg #[.int .i64 T.k, .int .i64 T.n, .slice x1 T.ls.len y1, .slice x2 T.ks.len y2]) (by simp [results, Tryz.results68, go_sem, g0, g1, g2, g3]) rfl ?_
        exact HE.out
      · have d1 : (n == at') = false := beq_eq_false_iff_ne.2 hc
        by_cases hd : at' < n
        · have e : op1 U 1 n .nil .nil at' = ⟨1, n - 1, .nil, .nil⟩ := by unfold op1; rw [if_neg (fun h => hc h.2), if_pos ⟨rfl, hd⟩]; rfl
          rw [e]
          obtain ⟨q0, q1, q2, q3⟩ := cells4 ((heap_old ((((w.alloc (.cells #[.int .i64 1, .int .i64 n, .slice la 0 lc, .slice ka 0 kc] 30)).alloc (.cells #[.int .i64 U.k, .int .i64 U.n, .slice ua U.ls.len uc, .slice va U.ks.len vc] 30)).alloc (.cells #[.int .i64 0, .int .i64 0, .slice none 0 0, .slice none 0 0] 30))) (.cells #[.int .i64 1, .int .i64 (n - 1), .slice la 0 lc, .slice none 0 0] 30) (by simp; omega : w.heap.size < _)).trans ((heap_old _ _ (by simp; omega)).trans ((heap_old _ _ (by simp)).trans (heap_new _ _))))
          clear e hls hsl hul hvl hwf IH hc
          simp only [Ft.len, Fo.len]
          go_enter Tryz.func68, Tryz.ntmps68
          go_wp2_with fail
          go_loopw [8] (fun i wr => i = .int .i64 0 ∧ wr = ((((w.alloc (.cells #[.int .i64 1, .int .i64 n, .slice la 0 lc, .slice ka 0 kc] 30)).alloc (.cells #[.int .i64 U.k, .int .i64 U.n, .slice ua U.ls.len uc, .slice va U.ks.len vc] 30)).alloc (.cells #[.int .i64 0, .int .i64 0, .slice none 0 0, .slice none 0 0] 30)).alloc (.cells #[.int .i64 1, .int .i64 (n - 1), .slice la 0 lc, .slice none 0 0] 30))) (fun _ _ => 0)
          case atStart => exact ⟨rfl, rfl⟩
          case round =>
            obtain ⟨rfl, rfl⟩ := hrel
            go_wp2_with fail
            refine bodyPost_ret (v := .agg #[.int .i64 1, .int .i64 (n - 1), .slice la 0 lc, .slice none 0 0]) (by simp [results, Tryz.results68, go_sem]) rfl ?_
            exact ⟨la, lc, none, 0, rfl, ⟨HLS.out.1, HLS.out.2.1, HLS.out.2.2.1, fun h => by simp [Fo.len] at h⟩, TlIn.none _ _, ((((Below.refl _ _).alloc (Nat.le_refl _) _).alloc (by simp) _).alloc (by simp; omega) _).alloc (by simp; omega) _⟩
        · have e : op1 U 1 n .nil .nil at' = ⟨1, n, .nil, .nil⟩ := by unfold op1; rw [if_neg (fun h => hc h.2), if_neg (fun h => hd h.2)]; rfl
          rw [e]
          obtain ⟨q0, q1, q2, q3⟩ := cells4 ((heap_old ((((w.alloc (.cells #[.int .i64 1, .int .i64 n, .slice la 0 lc, .slice ka 0 kc] 30)).alloc (.cells #[.int .i64 U.k, .int .i64 U.n, .slice ua U.ls.len uc, .slice va U.ks.len vc] 30)).alloc (.cells #[.int .i64 0, .int .i64 0, .slice none 0 0, .slice none 0 0] 30))) (.cells #[.int .i64 1, .int .i64 n, .slice la 0 lc, .slice none 0 0] 30) (by simp; omega : w.heap.size < _)).trans ((heap_old _ _ (by simp; omega)).trans ((heap_old _ _ (by simp)).trans (heap_new _ _))))
          have d2 : decide (at' < n) = false := decide_eq_false hd
          clear e hls hsl hul hvl hwf IH hc
          simp only [Ft.len, Fo.len]
          go_enter Tryz.func68, Tryz.ntmps68
          go_wp2_with fail
          go_loopw [8] (fun i wr => i = .int .i64 0 ∧ wr = ((((w.alloc (.cells #[.int .i64 1, .int .i64 n, .slice la 0 lc, .slice ka 0 kc] 30)).alloc (.cells #[.int .i64 U.k, .int .i64 U.n, .slice ua U.ls.len uc, .slice va U.ks.len vc] 30)).alloc (.cells #[.int .i64 0, .int .i64 0, .slice none 0 0, .slice none 0 0] 30)).alloc (.cells #[.int .i64 1, .int .i64 n, .slice la 0 lc, .slice none 0 0] 30))) (fun _ _ => 0)
          case atStart => exact ⟨rfl, rfl⟩
          case round =>
            obtain ⟨rfl, rfl⟩ := hrel
            go_wp2_with fail
            refine bodyPost_ret (v := .agg #[.int .i64 1, .int .i64 n, .slice la 0 lc, .slice none 0 0]) (by simp [results, Tryz.results68, go_sem]) rfl ?_
            exact ⟨la, lc, none, 0, rfl, ⟨HLS.out.1, HLS.out.2.1, HLS.out.2.2.1, fun h => by simp [Fo.len] at h⟩, TlIn.none _ _, ((((Below.refl _ _).alloc (Nat.le_refl _) _).alloc (by simp) _).alloc (by simp; omega) _).alloc (by simp; omega) _⟩
    · have hk' : (k == 1) = false := beq_eq_false_iff_ne.2 hk
      have e : op1 U k n ls f at' = ⟨k, n, ls, opF U f k 0 at'⟩ := by unfold op1; rw [if_neg (fun h => hk h.1), if_neg (fun h => hk h.1)]
      rw [e]
      have HW := Lib.hid hwf.2.2
      have HLS := Lib.hid hls
      have HSL := Lib.hid hsl
      have HUL := Lib.hid hul
      have HVL := Lib.hid hvl
      have HS := Lib.hid (TrQQ.start2 (Bl := Bl) (k := k) (n := n) (ls := ls) (la := la) (lc := lc) (.cells #[.int .i64 k, .int .i64 n, .slice la ls.len lc, .slice ka f.len kc] 30) (.cells #[.int .i64 U.k, .int .i64 U.n, .slice ua U.ls.len uc, .slice va U.ks.len vc] 30) hB)
      have HBX : Hid (((((w.alloc (.cells #[.int .i64 k, .int .i64 n, .slice la ls.len lc, .slice ka f.len kc] 30)).alloc (.cells #[.int .i64 U.k, .int .i64 U.n, .slice ua U.ls.len uc, .slice va U.ks.len vc] 30)).alloc (.cells #[.int .i64 0, .int .i64 0, .slice none 0 0, .slice none 0 0] 30)).alloc (.cells #[.int .i64 k, .int .i64 n, .slice la ls.len lc, .slice none 0 0] 30)).heap[w.heap.size]? = some (.cells #[.int .i64 k, .int .i64 n, .slice la ls.len lc, .slice ka f.len kc] 30 (0, 0)) ∧
          ((((w.alloc (.cells #[.int .i64 k, .int .i64 n, .slice la ls.len lc, .slice ka f.len kc] 30)).alloc (.cells #[.int .i64 U.k, .int .i64 U.n, .slice ua U.ls.len uc, .slice va U.ks.len vc] 30)).alloc (.cells #[.int .i64 0, .int .i64 0, .slice none 0 0, .slice none 0 0] 30)).alloc (.cells #[.int .i64 k, .int .i64 n, .slice la ls.len lc, .slice none 0 0] 30)).heap[w.heap.size + 1]? = some (.cells #[.int .i64 U.k, .int .i64 U.n, .slice ua U.ls.len uc, .slice va U.ks.len vc] 30 (0, 0))) := Lib.hid ⟨(heap_old _ _ (by simp; omega)).trans ((heap_old _ _ (by simp; omega)).trans ((heap_old _ _ (by simp)).trans (heap_new _ _))), (heap_old _ _ (by simp)).trans ((heap_old _ _ (by simp)).trans (heap_second _ _ _))⟩
      clear e hk hwf hls hsl hul hvl
      go_enter Tryz.func68, Tryz.ntmps68
      go_wp2_with fail
      go_loopw [8] (fun jv wr => ∃ (j : Nat) (H rest : Ft) (v : Value), jv = .int .i64 j ∧ Hid (f = H.app rest) ∧ Hid (H.len = j) ∧ Hid (TrQQ w (w.heap.size + 1 + 1) (w.heap.size + 1 + 1 + 1) B Bl Bh k n ls la lc (opF U H k 0 at') v wr) ∧ Hid (wr.heap[w.heap.size]? = some (.cells #[.int .i64 k, .int .i64 n, .slice la ls.len lc, .slice ka f.len kc] 30 (0, 0)) ∧ wr.heap[w.heap.size + 1]? = some (.cells #[.int .i64 U.k, .int .i64 U.n, .slice ua U.ls.len uc, .slice va U.ks.len vc] 30 (0, 0)))) (fun jv _ => f.len - (intOf jv).toNat)
      case atStart => exact ⟨0, .nil, f, _, rfl, Lib.hid rfl, Lib.hid rfl, HS, HBX⟩
      case round =>
        obtain ⟨j, H, rest, v, rfl, hf, hj, hR, hbx⟩ := hrel
        obtain ⟨⟨g0, g1, g2, g3, gz⟩, ⟨q0, q1, q2, q3, qz⟩, hob, hwr⟩ := hR.out.facts
        obtain ⟨c0, _, _, c3⟩ := cells4 hbx.out.1
        obtain ⟨d0, d1, d2, d3⟩ := cells4 hbx.out.2
        cases rest with
        | nil =>
          have hjl : ¬ (j : Int) < (f.len : Int) := by rw [hf.out, Ft.app_nil, hj.out]; omega
          have dj : decide ((j : Int) < (f.len : Int)) = false := by simpa using hjl
          obtain ⟨x, c, rfl, hE⟩ := hR.out.done HLS.out
          have HE := Lib.hid hE
          have HF : Hid (f = H) := Lib.hid (by rw [hf.out, Ft.app_nil])
          clear hE hR hf
          go_wp2_with fail
          refine bodyPost_ret (v := .agg #[.int .i64 k, .int .i64 n, .slice la ls.len lc, .slice x (opF U H k 0 at').len c]) (by simp [results, Tryz.results68, go_sem, g0, g1, g2, g3]) rfl ?_
          rw [HF.out]
          exact HE.out
        | cons k' n' ls' ks r' =>
          have hjn : j < f.len := by rw [hf.out, Ft.app_len, hj.out]; simp [Ft.len]
          have hjl : (j : Int) < (f.len : Int) := by omega
          obtain ⟨bq, o, rfl, hbB, hf0'⟩ := HSL.out.some (by omega)
          have hfa : FtIn w (fun b => b < B ∨ (Bl b = 0 ∧ b < Bh)) (.cons k' n' ls' ks r') bq (o + j * 4) := by
            have h1 := hf0'
            rw [hf.out] at h1
            rw [← hj.out]
            exact FtIn.behind H _ bq o h1
          obtain ⟨e0, e1, ⟨la', lc', e2, hls'⟩, ⟨ka', kc', e3, hsl'⟩, _⟩ := (hfa.belowQ hwr hB _ _ _ hbB).first
          have hfs : f.size = H.size + (ks.size + r'.size + 1) := by rw [hf.out, Ft.app_size]; rfl
          have hks : ks.size < s := by omega
          have hwk' : wf1 1030 k' n' ls' ks := by
            have h1 := HW.out
            rw [hf.out, wfF_app] at h1
            exact (wfF_parts h1.2).1
          have hbi := bindK_le k j
          have hBr : (B ≤ wr.heap.size ∧ Bh ≤ wr.heap.size) := leQ hB hwr.size
          have hbk : Below wr.heap.size wr wr.drew := (Below.refl _ _).drew
          have HC : Hid (Calls Tryz.prog 68 #[.agg #[.int .i64 k', .int .i64 n', .slice la' ls'.len lc', .slice ka' ks.len kc'], .int .i64 (at' + bindK k j), .agg #[.int .i64 U.k, .int .i64 U.n, .slice ua U.ls.len uc, .slice va U.ks.len vc]] wr.drew (TmPostQ B Bl Bh (op1 U k' n' ls' ks (at' + bindK k j)) wr.drew)) :=
            Lib.hid (IH.out ks hks (by omega) k' n' (at' + bindK k j) ls' la' ka' ua va lc' kc' uc vc B Bl Bh _ hwk' (by omega) (by omega) (hls'.belowQ hbk hBr) (hsl'.belowQ hbk hBr) ((HUL.out.belowQ hwr hB).belowQ hbk hBr) ((HVL.out.belowQ hwr hB).belowQ hbk hBr) (leQ hBr hbk.size))
          have hGl : (opF U H k 0 at').len = j := by rw [opF_len, hj.out]
          have hT' : opF U (H.app (.cons k' n' ls' ks .nil)) k 0 at' = (opF U H k 0 at').app (op1 U k' n' ls' ks (at' + bindK k j)).one := by
            rw [opF_app, opF_cons, hj.out, Nat.zero_add]; rfl
          have HAP : Hid (∀ (e : Ending) (w2 : World), TmPostQ B Bl Bh (op1 U k' n' ls' ks (at' + bindK k j)) wr.drew e w2 → ∃ (T : Tm) (x1 : Option Addr) (y1 : Nat) (x2 : Option Addr) (y2 : Nat), e = .returned (.agg #[.int .i64 T.k, .int .i64 T.n, .slice x1 T.ls.len y1, .slice x2 T.ks.len y2]) ∧
              w2.cell? ⟨w.heap.size + 1 + 1 + 1, 3, none⟩ = some v ∧ w.heap.size + 1 + 1 + 1 < w2.heap.size ∧ (w2.alloc (.cells #[.int .i64 T.k, .int .i64 T.n, .slice x1 T.ls.len y1, .slice x2 T.ks.len y2] 30)).cell? ⟨w.heap.size + 1 + 1 + 1, 3, none⟩ = some v ∧
              Hid (∀ q, q ≤ w.heap.size + 1 → w2.heap[q]? = wr.heap[q]?) ∧ Hid (∀ q, q ≤ w.heap.size + 1 → (w2.alloc (.cells #[.int .i64 T.k, .int .i64 T.n, .slice x1 T.ls.len y1, .slice x2 T.ks.len y2] 30)).heap[q]? = wr.heap[q]?) ∧
              ∃ g' cap' w3, Hid ((Builtin.append_ #[28, 28] 28 #[v, .slice (some ⟨w2.heap.size, 0, none⟩) 1 1]).run Tryz.prog (w2.alloc (.cells #[.int .i64 T.k, .int .i64 T.n, .slice x1 T.ls.len y1, .slice x2 T.ks.len y2] 30)) = .ok (.slice (some ⟨g', 0, none⟩) (j + 1) cap') w3) ∧
                w3.cell? ⟨w.heap.size + 1 + 1 + 1, 3, none⟩ = some v ∧ (∀ o, w3.frozen? ⟨w.heap.size + 1 + 1 + 1, o, none⟩ = false) ∧ Hid (∀ q, q ≤ w.heap.size + 1 → w3.heap[q]? = wr.heap[q]?) ∧
                Hid (TrQQ w (w.heap.size + 1 + 1) (w.heap.size + 1 + 1 + 1) B Bl Bh k n ls la lc (opF U (H.app (.cons k' n' ls' ks .nil)) k 0 at') (.slice (some ⟨g', 0, none⟩) (j + 1) cap') (w3.setCell ⟨w.heap.size + 1 + 1 + 1, 3, none⟩ (.slice (some ⟨g', 0, none⟩) (j + 1) cap'))) ∧
                Hid ((w3.setCell ⟨w.heap.size + 1 + 1 + 1, 3, none⟩ (.slice (some ⟨g', 0, none⟩) (j + 1) cap')).heap[w.heap.size]? = some (.cells #[.int .i64 k, .int .i64 n, .slice la ls.len lc, .slice (some ⟨bq, o, none⟩) f.len kc] 30 (0, 0)) ∧ (w3.setCell ⟨w.heap.size + 1 + 1 + 1, 3, none⟩ (.slice (some ⟨g', 0, none⟩) (j + 1) cap')).heap[w.heap.size + 1]? = some (.cells #[.int .i64 U.k, .int .i64 U.n, .slice ua U.ls.len uc, .slice va U.ks.len vc] 30 (0, 0)))) := Lib.hid (by
            rintro e w2 ⟨x1, y1, x2, y2, rfl, t0, t1, t2⟩
            have hG1 : (opF U H k 0 at').len ≤ 1000 := by rw [hGl]; have h1 := Ft.len_le_size f; omega
            have t4 : Below wr.heap.size wr w2 := Below.trans (Below.refl _ _).drew t2
            have hz4 := t4.size
            have hw4 := hwr.size
            obtain ⟨L2, hlb2, g', cap', w3, hrun, L3, Z3, hq, hN⟩ := TrQQ.next hR.out hG1 t0 t1 t4
            rw [hGl] at hrun hN
            rw [hT']
            refine ⟨_, x1, y1, x2, y2, rfl, L2, hlb2, (World.cell?_of_block (w := w2) (a := ⟨w.heap.size + 1 + 1 + 1, 3, none⟩) (heap_old w2 _ hlb2)).trans L2, Lib.hid (fun q hq => t4.block q (by omega)), Lib.hid (fun q hq => (heap_old w2 _ (by omega)).trans (t4.block q (by omega))), g', cap', w3, Lib.hid hrun, L3, Z3, Lib.hid (fun q h => hq q (by omega)), Lib.hid hN, Lib.hid ⟨?_, ?_⟩⟩
            · have nq : w.heap.size ≠ w.heap.size + 1 + 1 + 1 := by omega
              rw [Below.heap_setCell _ _ _ _ nq]
              exact (hq _ (by omega)).trans hbx.out.1
            · have nq : w.heap.size + 1 ≠ w.heap.size + 1 + 1 + 1 := by omega
              rw [Below.heap_setCell _ _ _ _ nq]
              exact (hq _ (by omega)).trans hbx.out.2)
          have HSN : Hid (f = (H.app (.cons k' n' ls' ks .nil)).app r') := Lib.hid (by rw [hf.out, Ft.app_assoc]; rfl)
          have HJ := Lib.hid hj.out
          have HW1 : Hid (IntKind.i64.wrap (at' + bindK k j) = at' + bindK k j) := Lib.hid (IntWalk.i64_in _ (by omega))
          have HBI : Hid (∀ W, Calls Tryz.prog 88 #[.int .i64 k, .int .i64 j] W fun e w' => e = .returned (.int .i64 (bindK k j)) ∧ w' = W) := Lib.hid (r13binds_any k j)
          have hbN : bq ≤ w.heap.size := by omega
          generalize bindK k j = Y at HC HAP HW1 HBI
          generalize op1 U k' n' ls' ks (at' + Y) = TT at HC HAP
          clear hf hR hfa hf0' hGl hT' g0 g1 g2 g3 gz q0 q1 q2 qz hls' hsl' hwk' hbi hfs hbk
          go_wp2_with fail
          refine wp_region_L (fun (w' : World) => w'.cell? ⟨w.heap.size + 1 + 1 + 1, 3, none⟩ = some v ∧ w'.cell? ⟨w.heap.size, 0, none⟩ = some (.int .i64 k) ∧ w'.cell? ⟨w.heap.size, 3, none⟩ = some (.slice (some ⟨bq, o, none⟩) f.len kc) ∧ w'.cell? ⟨bq, o + j * 4, none⟩ = some (.int .i64 k') ∧ w'.cell? ⟨bq, o + j * 4 + 1, none⟩ = some (.int .i64 n') ∧ w'.cell? ⟨bq, o + j * 4 + 2, none⟩ = some (.slice la' ls'.len lc') ∧ w'.cell? ⟨bq, o + j * 4 + 3, none⟩ = some (.slice ka' ks.len kc') ∧ w'.cell? ⟨w.heap.size + 1, 0, none⟩ = some (.int .i64 U.k) ∧ w'.cell? ⟨w.heap.size + 1, 1, none⟩ = some (.int .i64 U.n) ∧ w'.cell? ⟨w.heap.size + 1, 2, none⟩ = some (.slice ua U.ls.len uc) ∧ w'.cell? ⟨w.heap.size + 1, 3, none⟩ = some (.slice va U.ks.len vc)) 18 (by kernel_rfl) ?_
          have hH := (show (fun (w' : World) => w'.cell? ⟨w.heap.size + 1 + 1 + 1, 3, none⟩ = some v ∧ w'.cell? ⟨w.heap.size, 0, none⟩ = some (.int .i64 k) ∧ w'.cell? ⟨w.heap.size, 3, none⟩ = some (.slice (some ⟨bq, o, none⟩) f.len kc) ∧ w'.cell? ⟨bq, o + j * 4, none⟩ = some (.int .i64 k') ∧ w'.cell? ⟨bq, o + j * 4 + 1, none⟩ = some (.int .i64 n') ∧ w'.cell? ⟨bq, o + j * 4 + 2, none⟩ = some (.slice la' ls'.len lc') ∧ w'.cell? ⟨bq, o + j * 4 + 3, none⟩ = some (.slice ka' ks.len kc') ∧ w'.cell? ⟨w.heap.size + 1, 0, none⟩ = some (.int .i64 U.k) ∧ w'.cell? ⟨w.heap.size + 1, 1, none⟩ = some (.int .i64 U.n) ∧ w'.cell? ⟨w.heap.size + 1, 2, none⟩ = some (.slice ua U.ls.len uc) ∧ w'.cell? ⟨w.heap.size + 1, 3, none⟩ = some (.slice va U.ks.len vc)) wr.drew from ⟨q3, c0, c3, e0, e1, e2, e3, d0, d1, d2, d3⟩)
          refine tkL 0 ?_ hH ?_ ?_
          rotate_left
          · intro w' hSw
            obtain ⟨s0, s1, s2, s3, s4, s5, s6, s7, s8, s9, s10⟩ := hSw
            go_simp
            try with_reducible rfl
          refine tkL 1 ?_ hH ?_ ?_
          rotate_left
          · intro w' hSw
            obtain ⟨s0, s1, s2, s3, s4, s5, s6, s7, s8, s9, s10⟩ := hSw
            go_simp
            try with_reducible rfl
          refine tkL 2 ?_ hH ?_ ?_
          rotate_left
          · intro w' hSw
            obtain ⟨s0, s1, s2, s3, s4, s5, s6, s7, s8, s9, s10⟩ := hSw
            go_simp
            try with_reducible rfl
          refine tkL 3 ?_ hH ?_ ?_
          rotate_left
          · intro w' hSw
            obtain ⟨s0, s1, s2, s3, s4, s5, s6, s7, s8, s9, s10⟩ := hSw
            go_simp
            try with_reducible rfl
          refine tkL 4 ?_ hH ?_ ?_
          rotate_left
          · intro w' hSw
            obtain ⟨s0, s1, s2, s3, s4, s5, s6, s7, s8, s9, s10⟩ := hSw
            go_simp
            try with_reducible rfl
          refine tkL 5 ?_ hH ?_ ?_
          rotate_left
          · intro w' hSw
            obtain ⟨s0, s1, s2, s3, s4, s5, s6, s7, s8, s9, s10⟩ := hSw
            go_simp
            try with_reducible rfl
          refine tkL 6 ?_ hH ?_ ?_
          rotate_left
          · intro w' hSw
            obtain ⟨s0, s1, s2, s3, s4, s5, s6, s7, s8, s9, s10⟩ := hSw
            go_simp
            try with_reducible rfl
          refine tkL 7 ?_ hH ?_ ?_
          rotate_left
          · intro w' hSw
            obtain ⟨s0, s1, s2, s3, s4, s5, s6, s7, s8, s9, s10⟩ := hSw
            go_simp
            try with_reducible rfl
          refine tkL 8 ?_ hH ?_ ?_
          rotate_left
          · intro w' hSw
            obtain ⟨s0, s1, s2, s3, s4, s5, s6, s7, s8, s9, s10⟩ := hSw
            go_simp
            try with_reducible rfl
          refine tkL 9 ?_ hH ?_ ?_
          rotate_left
          · intro w' hSw
            obtain ⟨s0, s1, s2, s3, s4, s5, s6, s7, s8, s9, s10⟩ := hSw
            go_simp
            try with_reducible rfl
          refine tkL 10 ?_ hH ?_ ?_
          rotate_left
          · intro w' hSw
            obtain ⟨s0, s1, s2, s3, s4, s5, s6, s7, s8, s9, s10⟩ := hSw
            go_simp
            try with_reducible rfl
          refine tkL 13 ?_ hH ?_ ?_
          rotate_left
          · intro w' hSw
            obtain ⟨s0, s1, s2, s3, s4, s5, s6, s7, s8, s9, s10⟩ := hSw
            go_simp
            try with_reducible rfl
          refine oneL 11 (fun K hK => ?_)
          go_simp
          go_at_call 88
          refine (HBI.out _).mono ?_
          rintro e wM ⟨rfl, rfl⟩
          refine hK.out _ _ hH ?_
          clear hK K
          refine tkL 12 ?_ hH ?_ ?_
          rotate_left
          · intro w' hSw
            obtain ⟨s0, s1, s2, s3, s4, s5, s6, s7, s8, s9, s10⟩ := hSw
            go_simp
            try with_reducible rfl
          refine oneL 14 (fun K hK => ?_)
          go_simp
          go_at_call 68
          rw [HW1.out]
          refine HC.out.mono ?_
          intro e w2 hP
          obtain ⟨T, x1, y1, x2, y2, rfl, L2, hlb2, L2a, K2, K2a, g', cap', w3, HRUN, L3, Z3, K3, HN, HBX2⟩ := HAP.out e w2 hP
          clear hP hH
          have hH := (show (fun (w' : World) => w'.cell? ⟨w.heap.size + 1 + 1 + 1, 3, none⟩ = some v ∧ w'.cell? ⟨w.heap.size, 0, none⟩ = some (.int .i64 k) ∧ w'.cell? ⟨w.heap.size, 3, none⟩ = some (.slice (some ⟨bq, o, none⟩) f.len kc) ∧ w'.cell? ⟨bq, o + j * 4, none⟩ = some (.int .i64 k') ∧ w'.cell? ⟨bq, o + j * 4 + 1, none⟩ = some (.int .i64 n') ∧ w'.cell? ⟨bq, o + j * 4 + 2, none⟩ = some (.slice la' ls'.len lc') ∧ w'.cell? ⟨bq, o + j * 4 + 3, none⟩ = some (.slice ka' ks.len kc') ∧ w'.cell? ⟨w.heap.size + 1, 0, none⟩ = some (.int .i64 U.k) ∧ w'.cell? ⟨w.heap.size + 1, 1, none⟩ = some (.int .i64 U.n) ∧ w'.cell? ⟨w.heap.size + 1, 2, none⟩ = some (.slice ua U.ls.len uc) ∧ w'.cell? ⟨w.heap.size + 1, 3, none⟩ = some (.slice va U.ks.len vc)) w2 from ⟨L2, rqHeld2 K2.out hbN c0 c3 e0 e1 e2 e3 d0 d1 d2 d3⟩)
          refine hK.out _ _ hH ?_
          clear hK K
          refine oneL 15 (fun K hK => ?_)
          go_simp
          clear hH
          have hH := (show (fun (w' : World) => w'.cell? ⟨w.heap.size + 1 + 1 + 1, 3, none⟩ = some v ∧ w'.cell? ⟨w.heap.size, 0, none⟩ = some (.int .i64 k) ∧ w'.cell? ⟨w.heap.size, 3, none⟩ = some (.slice (some ⟨bq, o, none⟩) f.len kc) ∧ w'.cell? ⟨bq, o + j * 4, none⟩ = some (.int .i64 k') ∧ w'.cell? ⟨bq, o + j * 4 + 1, none⟩ = some (.int .i64 n') ∧ w'.cell? ⟨bq, o + j * 4 + 2, none⟩ = some (.slice la' ls'.len lc') ∧ w'.cell? ⟨bq, o + j * 4 + 3, none⟩ = some (.slice ka' ks.len kc') ∧ w'.cell? ⟨w.heap.size + 1, 0, none⟩ = some (.int .i64 U.k) ∧ w'.cell? ⟨w.heap.size + 1, 1, none⟩ = some (.int .i64 U.n) ∧ w'.cell? ⟨w.heap.size + 1, 2, none⟩ = some (.slice ua U.ls.len uc) ∧ w'.cell? ⟨w.heap.size + 1, 3, none⟩ = some (.slice va U.ks.len vc)) _ from ⟨L2a, rqHeld2 K2a.out hbN c0 c3 e0 e1 e2 e3 d0 d1 d2 d3⟩)
          refine hK.out _ _ hH ?_
          clear hK K
          refine oneL 16 (fun K hK => ?_)
          refine step_append (by rfl) _ _ _ (by rfl) (by rfl) (by rfl) HRUN.out ?_
          clear hH
          have hH := (show (fun (w' : World) => w'.cell? ⟨w.heap.size + 1 + 1 + 1, 3, none⟩ = some v ∧ w'.cell? ⟨w.heap.size, 0, none⟩ = some (.int .i64 k) ∧ w'.cell? ⟨w.heap.size, 3, none⟩ = some (.slice (some ⟨bq, o, none⟩) f.len kc) ∧ w'.cell? ⟨bq, o + j * 4, none⟩ = some (.int .i64 k') ∧ w'.cell? ⟨bq, o + j * 4 + 1, none⟩ = some (.int .i64 n') ∧ w'.cell? ⟨bq, o + j * 4 + 2, none⟩ = some (.slice la' ls'.len lc') ∧ w'.cell? ⟨bq, o + j * 4 + 3, none⟩ = some (.slice ka' ks.len kc') ∧ w'.cell? ⟨w.heap.size + 1, 0, none⟩ = some (.int .i64 U.k) ∧ w'.cell? ⟨w.heap.size + 1, 1, none⟩ = some (.int .i64 U.n) ∧ w'.cell? ⟨w.heap.size + 1, 2, none⟩ = some (.slice ua U.ls.len uc) ∧ w'.cell? ⟨w.heap.size + 1, 3, none⟩ = some (.slice va U.ks.len vc)) w3 from ⟨L3, rqHeld2 K3.out hbN c0 c3 e0 e1 e2 e3 d0 d1 d2 d3⟩)
          refine hK.out _ _ hH ?_
          clear hK K
          refine tkL 17 ?_ hH ?_ ?_
          rotate_left
          · intro w' hSw
            obtain ⟨s0, s1, s2, s3, s4, s5, s6, s7, s8, s9, s10⟩ := hSw
            go_simp
            try with_reducible rfl
          refine lastL (fun K hK => ?_)
          go_simp
          refine hK.out _ _ ?_
          clear hK K hH
          try simp only [Act.put, List.setIfInBounds_toArray, List.set_cons_zero, List.set_cons_succ]
          refine wpAnyL_done (by kernel_rfl) ?_ _
          go_wp2_with fail
          go_roundw
          case rel => exact ⟨j + 1, _, r', _, by go_num, HSN, Lib.hid (by rw [Ft.app_len, HJ.out]; rfl), HN, HBX2⟩
          case measure => simp [intOf]; omega
end Go.Proofs.YtnfhpombnbpdcaaGreat
namespace Go.Proofs.YtnfhpombnbpdcaaGreat
open Go.RowKit
def RePostQ (B : Nat) (Bl : Nat → Nat) (Bh : Nat) (A : Tm × Int) (w : World) (e : Ending) (w' : World) : Prop :=
  ∃ (la : Option Addr) (lc : Nat) (x : Option Addr) (c : Nat), e = .returned (.tuple #[.agg #[.int .i64 A.1.k, .int .i64 A.1.n, .slice la A.1.ls.len lc, .slice x A.1.ks.len c], .int .i64 A.2]) ∧ SlIn w' (fun b => ((b < B ∨ (Bl b = 0 ∧ b < Bh)) ∨ w.heap.size ≤ b) ∧ b < w'.heap.size) A.1.ls la lc ∧ TlIn w' (fun b => ((b < B ∨ (Bl b = 0 ∧ b < Bh)) ∨ w.heap.size ≤ b) ∧ b < w'.heap.size) A.1.ks x c ∧ Below w.heap.size w w'
theorem RePostQ.store {B : Nat} {Bl : Nat → Nat} {Bh R : Nat} {T : Tm} {E : Int} {w w3 : World} {P : Nat → Prop} {la x : Option Addr} {lc c : Nat} (hP : ∀ b, P b → b < w3.heap.size ∧ b ≠ R ∧ ((b < B ∨ (Bl b = 0 ∧ b < Bh)) ∨ w.heap.size ≤ b)) (hl : SlIn w3 P T.ls la lc) (hs : TlIn w3 P T.ks x c) (hb : Below w.heap.size w w3) (h1 : w.heap.size ≤ R) :
    RePostQ B Bl Bh (T, E) w (.returned (.tuple #[.agg #[.int .i64 T.k, .int .i64 T.n, .slice la T.ls.len lc, .slice x T.ks.len c], .int .i64 E])) ((((w3.setCell ⟨R, 0, none⟩ (.int .i64 T.k)).setCell ⟨R, 1, none⟩ (.int .i64 T.n)).setCell ⟨R, 2, none⟩ (.slice la T.ls.len lc)).setCell ⟨R, 3, none⟩ (.slice x T.ks.len c)) := by
  have hg := set4_only (w := w3) R (.int .i64 T.k) (.int .i64 T.n) (.slice la T.ls.len lc) (.slice x T.ks.len c)
  refine ⟨la, lc, x, c, rfl, ?_, ?_, ?_⟩
  · exact (hl.keep (fun b hb => Only.block hg (hP b hb).1 (hP b hb).2.1)).weak (fun b hb => ⟨(hP b hb).2.2, Nat.lt_of_lt_of_le (hP b hb).1 hg.size⟩)
  · exact hs.turn (fun b hb => Only.block hg (hP b hb).1 (hP b hb).2.1) (fun b hb => ⟨(hP b hb).2.2, Nat.lt_of_lt_of_le (hP b hb).1 hg.size⟩)
  · exact ⟨hg.os.trans hb.os, hg.tape.trans hb.tape, hg.output.trans hb.output, Nat.le_trans hb.size hg.size, fun q hq => (Only.block hg (by have := hb.size; omega) (by omega)).trans (hb.block q hq)⟩
set_option maxRecDepth 100000 in
set_option maxHeartbeats 4000000 in
theorem r13Open_anyQ (t u : Tm) (la ka la' ka' : Option Addr) (lc kc lc' kc' B : Nat) (Bl : Nat → Nat) (Bh : Nat) (w : World) (hls : SlIn w (fun b => b < B ∨ (Bl b = 0 ∧ b < Bh)) t.ls la lc) (hsl : TlIn w (fun b => b < B ∨ (Bl b = 0 ∧ b < Bh)) t.ks ka kc) (hls' : SlIn w (fun b => b < B ∨ (Bl b = 0 ∧ b < Bh)) u.ls la' lc') (hsl' : TlIn w (fun b => b < B ∨ (Bl b = 0 ∧ b < Bh)) u.ks ka' kc') (hB : (B ≤ w.heap.size ∧ Bh ≤ w.heap.size)) :
    Calls Tryz.prog 46 #[.agg #[.int .i64 t.k, .int .i64 t.n, .slice la t.ls.len lc, .slice ka t.ks.len kc], .agg #[.int .i64 u.k, .int .i64 u.n, .slice la' u.ls.len lc', .slice ka' u.ks.len kc']] w (RePostQ B Bl Bh (openA t u) w) := by
  obtain ⟨OT, hOT⟩ : ∃ o : Obj, o = .cells #[.int .i64 t.k, .int .i64 t.n, .slice la t.ls.len lc, .slice ka t.ks.len kc] 30 (0, 0) := ⟨_, rfl⟩
  obtain ⟨OU, hOU⟩ : ∃ o : Obj, o = .cells #[.int .i64 u.k, .int .i64 u.n, .slice la' u.ls.len lc', .slice ka' u.ks.len kc'] 30 (0, 0) := ⟨_, rfl⟩
  obtain ⟨OZ, hOZ⟩ : ∃ o : Obj, o = .cells #[.int .i64 0, .int .i64 0, .slice none 0 0, .slice none 0 0] 30 (0, 0) := ⟨_, rfl⟩
  have hb : Below w.heap.size w (((w.alloc OT).alloc OU).alloc OZ) := (((Below.refl _ _).alloc (Nat.le_refl _) _).alloc (by simp) _).alloc (by simp; omega) _
  have hT0 : (((w.alloc OT).alloc OU).alloc OZ).heap[w.heap.size]? = some OT := (heap_old _ _ (by simp; omega)).trans ((heap_old _ _ (by simp)).trans (heap_new _ _))
  have hU0 : (((w.alloc OT).alloc OU).alloc OZ).heap[w.heap.size + 1]? = some OU := (heap_old _ _ (by simp)).trans (heap_second _ _ _)
  have hZ0 : (((w.alloc OT).alloc OU).alloc OZ).heap[w.heap.size + 1 + 1]? = some OZ := by have := heap_second (w.alloc OT) OU OZ; simpa using this
  subst hOT hOU hOZ
  have HB := Lib.hid hb
  have HT0 := Lib.hid hT0
  have HU0 := Lib.hid hU0
  have HZ0 := Lib.hid hZ0
  have HS1 : Hid (∀ W : World, Below w.heap.size w W → Calls Tryz.prog 30 #[.agg #[.int .i64 t.k, .int .i64 t.n, .slice la t.ls.len lc, .slice ka t.ks.len kc]] W fun e w' => e = .returned (.bool t.sh) ∧ Below W.heap.size W w') := Lib.hid (by
    intro W h
    exact r13Shape_any t.k t.n t.ls t.ks la ka lc kc W.heap.size W ((hls.belowQ h hB).allQ (leQ hB h.size)) ((hsl.belowQ h hB).allQ (leQ hB h.size)) (Nat.le_refl _))
  have HS2 : Hid (∀ W : World, Below w.heap.size w W → Calls Tryz.prog 30 #[.agg #[.int .i64 u.k, .int .i64 u.n, .slice la' u.ls.len lc', .slice ka' u.ks.len kc']] W fun e w' => e = .returned (.bool u.sh) ∧ Below W.heap.size W w') := Lib.hid (by
    intro W h
    exact r13Shape_any u.k u.n u.ls u.ks la' ka' lc' kc' W.heap.size W ((hls'.belowQ h hB).allQ (leQ hB h.size)) ((hsl'.belowQ h hB).allQ (leQ hB h.size)) (Nat.le_refl _))
  have HOP : Hid (t.sh = true → u.sh = true → ∀ (W : World), Below w.heap.size w W → Calls Tryz.prog 68 #[.agg #[.int .i64 t.k, .int .i64 t.n, .slice la t.ls.len lc, .slice ka t.ks.len kc], .int .i64 0, .agg #[.int .i64 u.k, .int .i64 u.n, .slice la' u.ls.len lc', .slice ka' u.ks.len kc']] W (TmPostQ B Bl Bh (rep1 (gO u) t.k t.n t.ls t.ks 0) W)) := Lib.hid (by
    intro h1 h2 W h
    rw [← op1_rep (wf_of_sh h2) (wf_of_sh h1)]
    exact r13open_anyQ u (wf_of_sh h2) (sh_small8 h2).1 (t.ks.size + 1) t.ks (Nat.lt_succ_self _) (sh_small8 h1).1 t.k t.n 0 t.ls la ka la' ka' lc kc lc' kc' B Bl Bh W (wf_of_sh h1) (by omega) (by have := (sh_small8 h1).1; omega) (hls.belowQ h hB) (hsl.belowQ h hB) (hls'.belowQ h hB) (hsl'.belowQ h hB) (leQ hB h.size))
  have HNO : Hid (t.sh = false ∨ u.sh = false → openA t u = (tZ, 1)) := Lib.hid openA_no8
  have HYES : Hid (t.sh = true → u.sh = true → openA t u = fin1 (rep1 (gO u) t.k t.n t.ls t.ks 0)) := Lib.hid openA_yes8
  generalize t.sh = x at HS1 HOP HNO HYES
  generalize u.sh = y at HS2 HOP HNO HYES
  generalize rep1 (gO u) t.k t.n t.ls t.ks 0 = T at HOP HYES
  generalize openA t u = A at HNO HYES
  clear hls hsl hls' hsl' hb hT0 hU0 hZ0
  have hbad : Hid (∀ w3 : World, Below w.heap.size w w3 → A = (tZ, 1) → RePostQ B Bl Bh A w (.returned (.tuple #[.agg #[.int .i64 0, .int .i64 0, .slice none 0 0, .slice none 0 0], .int .i64 1])) ((((w3.setCell ⟨w.heap.size + 1 + 1, 0, none⟩ (.int .i64 0)).setCell ⟨w.heap.size + 1 + 1, 1, none⟩ (.int .i64 0)).setCell ⟨w.heap.size + 1 + 1, 2, none⟩ (.slice none 0 0)).setCell ⟨w.heap.size + 1 + 1, 3, none⟩ (.slice none 0 0))) := Lib.hid (by
    rintro w3 h rfl
    exact RePostQ.store (B := B) (Bl := Bl) (Bh := Bh) (R := w.heap.size + 1 + 1) (T := tZ) (E := 1) (w := w) (w3 := w3) (P := fun _ => False) (la := none) (lc := 0) (x := none) (c := 0) (fun _ h => h.elim) (SlIn.none _ _) (TlIn.none _ _) h (by omega))
  go_enter Tryz.func46, Tryz.ntmps46
  go_wp2_with fail
  refine (HS1.out _ HB.out).mono ?_
  rintro e w1 ⟨rfl, hb1⟩
  have HB1 := Lib.hid (Below.step HB.out hb1 (Nat.le_refl _))
  have HZ1 := Lib.hid ((hb1.block (w.heap.size + 1 + 1) (by simp)).trans HZ0.out)
  have HU1 := Lib.hid ((hb1.block (w.heap.size + 1) (by simp)).trans HU0.out)
  have HT1 := Lib.hid ((hb1.block w.heap.size (by simp; omega)).trans HT0.out)
  obtain ⟨g0, g1, g2, g3⟩ := cells4 HZ1.out
  have gz := free_of HZ1.out
  have hz1 := lt_of_block HZ1.out
  obtain ⟨q0, q1, q2, q3⟩ := cells4 HU1.out
  clear hb1
  cases x with
  | false =>
    have HA := Lib.hid (HNO.out (.inl rfl))
    go_wp2_with fail
    refine bodyPost_ret (v := .tuple #[.agg #[.int .i64 0, .int .i64 0, .slice none 0 0, .slice none 0 0], .int .i64 1]) (by simp [results, Tryz.results46, go_sem, g0, g1, g2, g3]) rfl ?_
    exact hbad.out _ HB1.out HA.out
  | true =>
    go_wp2_with fail
    refine (HS2.out _ HB1.out).mono ?_
    rintro e w2 ⟨rfl, hb2⟩
    have HB2 := Lib.hid (Below.step HB1.out hb2 (Nat.le_refl _))
    have HZ2 := Lib.hid ((hb2.block (w.heap.size + 1 + 1) hz1).trans HZ1.out)
    have HU2 := Lib.hid ((hb2.block (w.heap.size + 1) (by omega)).trans HU1.out)
    have HT2 := Lib.hid ((hb2.block w.heap.size (by omega)).trans HT1.out)
    clear g0 g1 g2 g3 gz q0 q1 q2 q3 hb2
    obtain ⟨g0, g1, g2, g3⟩ := cells4 HZ2.out
    have gz := free_of HZ2.out
    have hz2 := lt_of_block HZ2.out
    obtain ⟨q0, q1, q2, q3⟩ := cells4 HU2.out
    obtain ⟨p0, p1, p2, p3⟩ := cells4 HT2.out
    cases y with
    | false =>
      have HA := Lib.hid (HNO.out (.inr rfl))
      go_wp2_with fail
      refine bodyPost_ret (v := .tuple #[.agg #[.int .i64 0, .int .i64 0, .slice none 0 0, .slice none 0 0], .int .i64 1]) (by simp [results, Tryz.results46, go_sem, g0, g1, g2, g3]) rfl ?_
      exact hbad.out _ HB2.out HA.out
    | true =>
      have HA := Lib.hid (HYES.out (by first | rfl | trivial) (by first | rfl | trivial))
      have HC := Lib.hid (HOP.out (by first | rfl | trivial) (by first | rfl | trivial) w2 HB2.out)
      clear HNO HYES HOP hbad HS1 HS2
      go_wp2_with fail
      refine HC.out.mono ?_
      rintro e w3 ⟨x1, y1, x2, y2, rfl, hl2, hs2, hb3⟩
      have HB3 := Lib.hid (Below.step HB2.out hb3 (Nat.le_refl _))
      have HZ3 := Lib.hid ((hb3.block (w.heap.size + 1 + 1) hz2).trans HZ2.out)
      have hz3 := lt_of_block HZ3.out
      have HO := Lib.hid (heap_new w3 (.cells #[.int .i64 T.k, .int .i64 T.n, .slice x1 T.ls.len y1, .slice x2 T.ks.len y2] 30))
      have hal : Below w3.heap.size w3 (w3.alloc (.cells #[.int .i64 T.k, .int .i64 T.n, .slice x1 T.ls.len y1, .slice x2 T.ks.len y2] 30)) := (Below.refl _ _).alloc (Nat.le_refl _) _
      have hlw : SlIn w3 (· < w3.heap.size) T.ls x1 y1 := hl2.weak (fun b h => h.2)
      have hsw : TlIn w3 (· < w3.heap.size) T.ks x2 y2 := hs2.weak (fun b h => h.2)
      have HSH := Lib.hid (r13Shape_any T.k T.n T.ls T.ks x1 x2 y1 y2 w3.heap.size (w3.alloc (.cells #[.int .i64 T.k, .int .i64 T.n, .slice x1 T.ls.len y1, .slice x2 T.ks.len y2] 30)) (hlw.below hal) (hsw.below hal) (by simp))
      have HL2 : Hid (SlIn w3 (fun b => ((b < B ∨ (Bl b = 0 ∧ b < Bh)) ∨ w2.heap.size ≤ b) ∧ b < w3.heap.size) T.ls x1 y1 ∧ TlIn w3 (fun b => ((b < B ∨ (Bl b = 0 ∧ b < Bh)) ∨ w2.heap.size ≤ b) ∧ b < w3.heap.size) T.ks x2 y2) := Lib.hid ⟨hl2, hs2⟩
      have HFI : Hid (∀ x, shB T.k T.n T.ls T.ks = x → fin1 T = if x = true then (T, 0) else (tZ, 2)) := Lib.hid (fun x hx => by unfold fin1 Tm.sh; rw [hx])
      clear hl2 hs2 hb3 hal hlw hsw HC g0 g1 g2 g3 gz q0 q1 q2 q3 p0 p1 p2 p3
      generalize shB T.k T.n T.ls T.ks = z at HSH HFI
      have HF := Lib.hid (HA.out.trans (HFI.out z rfl))
      clear HFI HA
      go_wp2_with fail
      refine HSH.out.mono ?_
      rintro e w4 ⟨rfl, hb4⟩
      have HB4 := Lib.hid ((HB3.out.alloc HB3.out.size _).trans (hb4.mono (by have := HB3.out.size; simp; omega)))
      have HZ4 := Lib.hid ((hb4.block (w.heap.size + 1 + 1) (by simp; omega)).trans ((heap_old _ _ hz3).trans HZ3.out))
      obtain ⟨g0, g1, g2, g3⟩ := cells4 HZ4.out
      have gz := free_of HZ4.out
      have hz4 := lt_of_block HZ4.out
      cases z with
      | false =>
        have HA2 : Hid (A = (tZ, 2)) := Lib.hid (by rw [HF.out]; rfl)
        have HE := Lib.hid (RePostQ.store (B := B) (Bl := Bl) (Bh := Bh) (R := w.heap.size + 1 + 1) (T := tZ) (E := 2) (w := w) (w3 := w4) (P := fun _ => False) (la := none) (lc := 0) (x := none) (c := 0) (fun _ h => h.elim) (SlIn.none _ _) (TlIn.none _ _) HB4.out (by omega))
        clear hb4
        go_wp2_with fail
        refine bodyPost_ret (v := .tuple #[.agg #[.int .i64 0, .int .i64 0, .slice none 0 0, .slice none 0 0], .int .i64 2]) (by simp [results, Tryz.results46, go_sem, g0, g1, g2, g3]) rfl ?_
        rw [HA2.out]
        exact HE.out
      | true =>
        have HA2 : Hid (A = (T, 0)) := Lib.hid (by rw [HF.out]; rfl)
        have hkeep : ∀ b, ((b < B ∨ (Bl b = 0 ∧ b < Bh)) ∨ w2.heap.size ≤ b) ∧ b < w3.heap.size → w4.heap[b]? = w3.heap[b]? := fun b hb => (hb4.block b (by simp; omega)).trans (heap_old _ _ hb.2)
        have hz34 : w3.heap.size + 1 ≤ w4.heap.size := by have := hb4.size; simp at this; omega
        have HE := Lib.hid (RePostQ.store (B := B) (Bl := Bl) (Bh := Bh) (R := w.heap.size + 1 + 1) (T := T) (E := 0) (w := w) (w3 := w4) (P := fun b => ((b < B ∨ (Bl b = 0 ∧ b < Bh)) ∨ w2.heap.size ≤ b) ∧ b < w3.heap.size) (fun b h => ⟨by omega, by omega, by omega⟩) (HL2.out.1.keep hkeep) (HL2.out.2.keep hkeep) HB4.out (by omega))
        have t0 := (hb4.block w3.heap.size (by simp)).trans HO.out
        obtain ⟨q0, q1, q2, q3⟩ := cells4 t0
        have hlt2 := lt_of_block t0
        clear hb4 hkeep t0
        go_wp2_with fail
        refine bodyPost_ret (v := .tuple #[.agg #[.int .i64 T.k, .int .i64 T.n, .slice x1 T.ls.len y1, .slice x2 T.ks.len y2], .int .i64 0]) (by simp [results, Tryz.results46, go_sem, g0, g1, g2, g3]) rfl ?_
        rw [HA2.out]
        exact HE.out
end Go.Proofs.YtnfhpombnbpdcaaGreat
namespace Go.Proofs.YtnfhpombnbpdcaaGreat
open Go.RowKit
set_option maxRecDepth 100000 in
set_option maxHeartbeats 2000000 in
theorem r5right_any (f : Fo) (a : Option Addr) (cap B : Nat) (w : World) (hsl : SlIn w (· < B) f a cap) (hB : B ≤ w.heap.size) :
    Calls Tryz.prog 100 #[.slice a f.len cap] w fun e w' => e = .returned (.bool (allR f)) ∧ Below w.heap.size w w' := by
  have hlen := hsl.len
  have HSL := Lib.hid hsl
  clear hsl
  go_enter Tryz.func100, Tryz.ntmps100
  go_wp2_with fail
  go_loopw [3] (fun jv wr => ∃ (j : Nat) (rest : Fo), jv = .int .i64 j ∧ Hid (j + rest.len = f.len) ∧ Hid (∀ b o, a = some ⟨b, o, none⟩ → FoIn w (· < B) rest b (o + j * 3)) ∧ Hid (allR rest = allR f) ∧ Below w.heap.size w wr) (fun jv _ => f.len - (intOf jv).toNat)
  case atStart => exact ⟨0, f, rfl, Lib.hid (by omega), Lib.hid (by rintro b o rfl; simpa using HSL.out.foIn), Lib.hid rfl, Below.refl _ _⟩
  case round =>
    obtain ⟨j, rest, rfl, hj, hin, hall, hb⟩ := hrel
    cases rest with
    | nil =>
      have hlt : ¬ (j : Int) < (f.len : Int) := by have := hj.out; simp [Fo.len] at this; omega
      have dj : decide ((j : Int) < (f.len : Int)) = false := by simpa using hlt
      go_wp2_with fail
      go_ret
      exact ⟨by rw [← hall.out]; rfl, hb⟩
    | cons k' n' ks r' =>
      have hjn : j < f.len := by have := hj.out; simp [Fo.len] at this; omega
      have hjl : (j : Int) < (f.len : Int) := by omega
      obtain ⟨b, o, rfl, hbB, _⟩ := HSL.out.some (by omega)
      have hfa := hin.out b o rfl
      obtain ⟨e0, e1, ⟨a', cap', e2, hsl'⟩, _⟩ := (hfa.below (hb.mono hB) _ _ _ hbB).first
      have hBr : B ≤ wr.heap.size := Nat.le_trans hB hb.size
      have HC := Lib.hid (rRight_any 5 10 k' n' ks a' cap' B wr hsl' hBr)
      have hall' := hall.out
      simp only [allR] at hall'
      clear hsl'
      generalize rightB 5 10 k' n' ks = v at HC hall'
      cases v with
      | true =>
        have HN := Lib.hid hall'
        clear hall' hall
        go_wp2_with fail
        refine HC.out.mono ?_
        rintro e w2 ⟨rfl, hb2⟩
        have HB2 := Lib.hid (Below.step hb hb2 (Nat.le_refl _))
        clear hb2
        go_wp2_with fail
        go_roundw
        case rel => exact ⟨j + 1, r', by go_num, Lib.hid (by have := hj.out; simp [Fo.len] at this; omega), Lib.hid (by rintro b' o' h; cases h; have := hfa.2.2.2; rwa [show o + (j + 1) * 3 = o + j * 3 + 3 by omega]), Lib.hid (by have h := HN.out; simpa using h), HB2.out⟩
        case measure => simp [intOf]; omega
      | false =>
        have HN := Lib.hid hall'
        clear hall' hall
        go_wp2_with fail
        refine HC.out.mono ?_
        rintro e w2 ⟨rfl, hb2⟩
        have HB2 := Lib.hid (Below.step hb hb2 (Nat.le_refl _))
        clear hb2
        go_wp2_with fail
        go_ret
        exact ⟨by have h := HN.out; simp at h; rw [← h]; rfl, HB2.out⟩
def RuW (w : World) (k n : Int) (a : Option Addr) (len cap : Nat) : World := (w.alloc (.cells #[.int .i64 k, .int .i64 n, .slice a len cap] 45)).alloc (.cells #[.int .i64 0, .int .i64 0, .slice none 0 0] 45)
theorem ruW_size (w : World) (k n : Int) (a : Option Addr) (len cap : Nat) : (RuW w k n a len cap).heap.size = w.heap.size + 1 + 1 := by simp [RuW]
theorem ruW_at {w w1 : World} {k n : Int} {a : Option Addr} {len cap : Nat} (hb : Below (w.heap.size + 1 + 1) (RuW w k n a len cap) w1) :
    w1.heap[w.heap.size]? = some (.cells #[.int .i64 k, .int .i64 n, .slice a len cap] 45 (0, 0)) ∧ w1.heap[w.heap.size + 1]? = some (.cells #[.int .i64 0, .int .i64 0, .slice none 0 0] 45 (0, 0)) ∧ Below w.heap.size w w1 ∧ w.heap.size + 1 + 1 ≤ w1.heap.size := by
  have hz := hb.size
  rw [ruW_size] at hz
  refine ⟨(hb.block _ (by omega)).trans ((heap_old _ _ (by simp)).trans (heap_new _ _)), (hb.block _ (by omega)).trans (heap_second _ _ _), ?_, hz⟩
  exact (((Below.refl _ _).alloc (Nat.le_refl _) _).alloc (by simp) _).trans (hb.mono (by omega))
theorem ruW_step {w w1 w2 : World} {k n : Int} {a : Option Addr} {len cap : Nat} (hb : Below (w.heap.size + 1 + 1) (RuW w k n a len cap) w1) (hb2 : Below w1.heap.size w1 w2) : Below (w.heap.size + 1 + 1) (RuW w k n a len cap) w2 :=
  Below.step hb hb2 (by rw [ruW_size]; exact Nat.le_refl _)
theorem ruW_cells {w w1 : World} {k n : Int} {a : Option Addr} {len cap : Nat} (hb : Below (w.heap.size + 1 + 1) (RuW w k n a len cap) w1) :
    w1.cell? ⟨w.heap.size, 0, none⟩ = some (.int .i64 k) ∧ w1.cell? ⟨w.heap.size, 1, none⟩ = some (.int .i64 n) ∧ w1.cell? ⟨w.heap.size, 2, none⟩ = some (.slice a len cap) ∧
    w1.cell? ⟨w.heap.size + 1, 0, none⟩ = some (.int .i64 0) ∧ w1.cell? ⟨w.heap.size + 1, 1, none⟩ = some (.int .i64 0) ∧ w1.cell? ⟨w.heap.size + 1, 2, none⟩ = some (.slice none 0 0) ∧ (∀ o, w1.frozen? ⟨w.heap.size + 1, o, none⟩ = false) ∧ w.heap.size + 1 < w1.heap.size := by
  obtain ⟨h1, h2, _, h6⟩ := ruW_at hb
  exact ⟨cell_at h1 0, cell_at h1 1, cell_at h1 2, cell_at h2 0, cell_at h2 1, cell_at h2 2, free_of h2, by omega⟩
end Go.Proofs.YtnfhpombnbpdcaaGreat
namespace Go.Proofs.YtnfhpombnbpdcaaGreat
open Go.RowKit
end Go.Proofs.YtnfhpombnbpdcaaGreat
namespace Go.Proofs.YtnfhpombnbpdcaaGreat
open Go.RowKit
end Go.Proofs.YtnfhpombnbpdcaaGreat
namespace Go.Proofs.YtnfhpombnbpdcaaGreat
open Go.RowKit
set_option maxRecDepth 100000 in
set_option maxHeartbeats 2000000 in
theorem r15right_any (f : Fo) (a : Option Addr) (cap B : Nat) (w : World) (hsl : SlIn w (· < B) f a cap) (hB : B ≤ w.heap.size) :
    Calls Tryz.prog 69 #[.slice a f.len cap] w fun e w' => e = .returned (.bool (allR f)) ∧ Below w.heap.size w w' := by
  have hlen := hsl.len
  have HSL := Lib.hid hsl
  clear hsl
  go_enter Tryz.func69, Tryz.ntmps69
  go_wp2_with fail
  go_loopw [3] (fun jv wr => ∃ (j : Nat) (rest : Fo), jv = .int .i64 j ∧ Hid (j + rest.len = f.len) ∧ Hid (∀ b o, a = some ⟨b, o, none⟩ → FoIn w (· < B) rest b (o + j * 3)) ∧ Hid (allR rest = allR f) ∧ Below w.heap.size w wr) (fun jv _ => f.len - (intOf jv).toNat)
  case atStart => exact ⟨0, f, rfl, Lib.hid (by omega), Lib.hid (by rintro b o rfl; simpa using HSL.out.foIn), Lib.hid rfl, Below.refl _ _⟩
  case round =>
    obtain ⟨j, rest, rfl, hj, hin, hall, hb⟩ := hrel
    cases rest with
    | nil =>
      have hlt : ¬ (j : Int) < (f.len : Int) := by have := hj.out; simp [Fo.len] at this; omega
      have dj : decide ((j : Int) < (f.len : Int)) = false := by simpa using hlt
      go_wp2_with fail
      go_ret
      exact ⟨by rw [← hall.out]; rfl, hb⟩
    | cons k' n' ks r' =>
      have hjn : j < f.len := by have := hj.out; simp [Fo.len] at this; omega
      have hjl : (j : Int) < (f.len : Int) := by omega
      obtain ⟨b, o, rfl, hbB, _⟩ := HSL.out.some (by omega)
      have hfa := hin.out b o rfl
      obtain ⟨e0, e1, ⟨a', cap', e2, hsl'⟩, _⟩ := (hfa.below (hb.mono hB) _ _ _ hbB).first
      have hBr : B ≤ wr.heap.size := Nat.le_trans hB hb.size
      have HC := Lib.hid (rRight_any 5 10 k' n' ks a' cap' B wr hsl' hBr)
      have hall' := hall.out
      simp only [allR] at hall'
      clear hsl'
      generalize rightB 5 10 k' n' ks = v at HC hall'
      cases v with
      | true =>
        have HN := Lib.hid hall'
        clear hall' hall
        go_wp2_with fail
        refine HC.out.mono ?_
        rintro e w2 ⟨rfl, hb2⟩
        have HB2 := Lib.hid (Below.step hb hb2 (Nat.le_refl _))
        clear hb2
        go_wp2_with fail
        go_roundw
        case rel => exact ⟨j + 1, r', by go_num, Lib.hid (by have := hj.out; simp [Fo.len] at this; omega), Lib.hid (by rintro b' o' h; cases h; have := hfa.2.2.2; rwa [show o + (j + 1) * 3 = o + j * 3 + 3 by omega]), Lib.hid (by have h := HN.out; simpa using h), HB2.out⟩
        case measure => simp [intOf]; omega
      | false =>
        have HN := Lib.hid hall'
        clear hall' hall
        go_wp2_with fail
        refine HC.out.mono ?_
        rintro e w2 ⟨rfl, hb2⟩
        have HB2 := Lib.hid (Below.step hb hb2 (Nat.le_refl _))
        clear hb2
        go_wp2_with fail
        go_ret
        exact ⟨by have h := HN.out; simp at h; rw [← h]; rfl, HB2.out⟩
end Go.Proofs.YtnfhpombnbpdcaaGreat
namespace Go.Proofs.YtnfhpombnbpdcaaGreat
open Go.RowKit
end Go.Proofs.YtnfhpombnbpdcaaGreat
namespace Go.Proofs.YtnfhpombnbpdcaaGreat
open Go.RowKit
end Go.Proofs.YtnfhpombnbpdcaaGreat
namespace Go.Proofs.YtnfhpombnbpdcaaGreat
open Go.RowKit
def SuPostBQ (B : Nat) (Bl : Nat → Nat) (Bh : Nat) (T : Fo) (E : Int) (w : World) (e : Ending) (w' : World) : Prop :=
  ∃ (k n : Int) (F : Fo) (x : Option Addr) (c : Nat), T = .cons k n F .nil ∧ e = .returned (.tuple #[.agg #[.int .i64 k, .int .i64 n, .slice x F.len c], .int .i64 E]) ∧ SlIn w' (fun b => ((b < B ∨ (Bl b = 0 ∧ b < Bh)) ∨ w.heap.size ≤ b) ∧ b < w'.heap.size) F x c ∧ Below w.heap.size w w'
theorem SuPostBQ.no {B : Nat} {Bl : Nat → Nat} {Bh : Nat} {E : Int} {w w' : World} (h : Below w.heap.size w w') : SuPostBQ B Bl Bh (.cons 0 0 .nil .nil) E w (.returned (.tuple #[.agg #[.int .i64 0, .int .i64 0, .slice none 0 0], .int .i64 E])) w' := ⟨0, 0, .nil, none, 0, rfl, rfl, SlIn.none _ _, h⟩
theorem ru_finBQ {B : Nat} {Bl : Nat → Nat} {Bh : Nat} {w w4 : World} (hB : (B ≤ w.heap.size ∧ Bh ≤ w.heap.size)) {k n k2 n2 : Int} {f P Q F2 : Fo} {a a2 : Option Addr} {cap c2 : Nat} (hok : okS P Q k n f = (true && (true && true))) (hT : sb1 P Q k n (sbF P Q f) = .cons k2 n2 F2 .nil) (hb : Below (w.heap.size + 1 + 1) (RuW w k n a f.len cap) w4)
    {w3 : World} (hz : w.heap.size + 1 + 1 ≤ w3.heap.size) (hs : SlIn w4 (fun b => ((b < B ∨ (Bl b = 0 ∧ b < Bh)) ∨ w3.heap.size ≤ b) ∧ b < w4.heap.size) F2 a2 c2) :
    (Calls Tryz.prog 71 #[.agg #[.int .i64 k2, .int .i64 n2, .slice a2 F2.len c2], .int .i64 5, .int .i64 10] (w4.alloc (.cells #[.int .i64 k2, .int .i64 n2, .slice a2 F2.len c2] 45)) fun e w' => e = .returned (.bool (rightB 5 10 k2 n2 F2)) ∧ Below (w4.alloc (.cells #[.int .i64 k2, .int .i64 n2, .slice a2 F2.len c2] 45)).heap.size (w4.alloc (.cells #[.int .i64 k2, .int .i64 n2, .slice a2 F2.len c2] 45)) w') ∧
    ∀ w5, Below (w4.alloc (.cells #[.int .i64 k2, .int .i64 n2, .slice a2 F2.len c2] 45)).heap.size (w4.alloc (.cells #[.int .i64 k2, .int .i64 n2, .slice a2 F2.len c2] 45)) w5 →
      (rightB 5 10 k2 n2 F2 = true → SuPostBQ B Bl Bh (subT P Q k n f) (subE P Q k n f) w (.returned (.tuple #[.agg #[.int .i64 k2, .int .i64 n2, .slice a2 F2.len c2], .int .i64 0])) (((w5.setCell ⟨w.heap.size + 1, 0, none⟩ (.int .i64 k2)).setCell ⟨w.heap.size + 1, 1, none⟩ (.int .i64 n2)).setCell ⟨w.heap.size + 1, 2, none⟩ (.slice a2 F2.len c2))) ∧
      (rightB 5 10 k2 n2 F2 = false → SuPostBQ B Bl Bh (subT P Q k n f) (subE P Q k n f) w (.returned (.tuple #[.agg #[.int .i64 0, .int .i64 0, .slice none 0 0], .int .i64 2])) (((w5.setCell ⟨w.heap.size + 1, 0, none⟩ (.int .i64 0)).setCell ⟨w.heap.size + 1, 1, none⟩ (.int .i64 0)).setCell ⟨w.heap.size + 1, 2, none⟩ (.slice none 0 0))) := by
  have hbo : Below w4.heap.size w4 (w4.alloc (.cells #[.int .i64 k2, .int .i64 n2, .slice a2 F2.len c2] 45)) := (Below.refl _ _).alloc (Nat.le_refl _) _
  have hs4 : SlIn w4 (· < w4.heap.size) F2 a2 c2 := hs.weak (fun b hb => hb.2)
  refine ⟨rRight_any 5 10 k2 n2 F2 a2 c2 w4.heap.size _ (hs4.below hbo) hbo.size, fun w5 h5 => ⟨fun hr => ?_, fun hr => ?_⟩⟩
  · have h6 := ruW_step (ruW_step hb hbo) h5
    have hw5 := (ruW_at h6).2.2
    have h45 : Below w4.heap.size w4 w5 := Below.step hbo h5 (Nat.le_refl _)
    have hE : subE P Q k n f = 0 := by
      unfold subE
      rw [hok, hT]
      show (if rightB 5 10 k2 n2 F2 = true then (0 : Int) else 2) = 0
      rw [if_pos hr]
    have hTT : subT P Q k n f = .cons k2 n2 F2 .nil := by unfold subT; rw [if_pos hE]; exact hT
    rw [hE, hTT]
    have hg := set3_only (w := w5) (w.heap.size + 1) (.int .i64 k2) (.int .i64 n2) (.slice a2 F2.len c2)
    refine ⟨k2, n2, F2, a2, c2, rfl, rfl, ?_, ?_⟩
    · refine ((hs.keep (fun b hb => h45.block b hb.2)).keep (w' := ((w5.setCell ⟨w.heap.size + 1, 0, none⟩ (.int .i64 k2)).setCell ⟨w.heap.size + 1, 1, none⟩ (.int .i64 n2)).setCell ⟨w.heap.size + 1, 2, none⟩ (.slice a2 F2.len c2)) (fun b hb => Only.block hg (Nat.lt_of_lt_of_le hb.2 h45.size) ?_)).weak (fun b hb => ?_)
      · have := hb.1; omega
      · exact ⟨by have := hb.1; omega, Nat.lt_of_lt_of_le hb.2 (Nat.le_trans h45.size hg.size)⟩
    · exact ⟨hg.os.trans hw5.1.os, hg.tape.trans hw5.1.tape, hg.output.trans hw5.1.output, Nat.le_trans hw5.1.size hg.size, fun q hq => (Only.block hg (by omega) (by omega)).trans (hw5.1.block q hq)⟩
  · have h6 := ruW_step (ruW_step hb hbo) h5
    have hw5 := (ruW_at h6).2.2
    have hE : subE P Q k n f = 2 := by
      unfold subE
      rw [hok, hT]
      show (if rightB 5 10 k2 n2 F2 = true then (0 : Int) else 2) = 2
      rw [if_neg (by rw [hr]; simp)]
    have hTT : subT P Q k n f = .cons 0 0 .nil .nil := by unfold subT; rw [hE]; rfl
    rw [hE, hTT]
    exact SuPostBQ.no (((hw5.1.setCell (by simp) _).setCell (by simp) _).setCell (by simp) _)
set_option maxRecDepth 100000 in
set_option maxHeartbeats 4000000 in
theorem r5Sub_offQ (P Q : Fo) (k n : Int) (f : Fo) (a ap aq : Option Addr) (cap cp cq B : Nat) (Bl : Nat → Nat) (Bh : Nat) (w : World) (hsl : SlIn w (fun b => b < B ∨ (Bl b = 0 ∧ b < Bh)) f a cap) (hsp : SlIn w (fun b => b < B ∨ (Bl b = 0 ∧ b < Bh)) P ap cp) (hsq : SlIn w (fun b => b < B ∨ (Bl b = 0 ∧ b < Bh)) Q aq cq) (hB : (B ≤ w.heap.size ∧ Bh ≤ w.heap.size)) :
    Calls Tryz.prog 90 #[.agg #[.int .i64 k, .int .i64 n, .slice a f.len cap], .slice ap P.len cp, .slice aq Q.len cq] w (SuPostBQ B Bl Bh (subT P Q k n f) (subE P Q k n f) w) := by
  have hb0 : Below (w.heap.size + 1 + 1) (RuW w k n a f.len cap) (RuW w k n a f.len cap) := Below.refl _ _
  have hlp := hsp.len
  have hlq := hsq.len
  have HL : Hid (∀ W, Below (w.heap.size + 1 + 1) (RuW w k n a f.len cap) W → Calls Tryz.prog 71 #[.agg #[.int .i64 k, .int .i64 n, .slice a f.len cap], .int .i64 5, .int .i64 10] W fun e w' => e = .returned (.bool (rightB 5 10 k n f)) ∧ Below W.heap.size W w') := Lib.hid (fun W h =>
    rRight_any 5 10 k n f a cap W.heap.size W ((hsl.belowQ (ruW_at h).2.2.1 hB).allQ (leQ hB (ruW_at h).2.2.1.size)) (Nat.le_refl _))
  have HP : Hid (∀ W, Below (w.heap.size + 1 + 1) (RuW w k n a f.len cap) W → Calls Tryz.prog 100 #[.slice ap P.len cp] W fun e w' => e = .returned (.bool (allR P)) ∧ Below W.heap.size W w') := Lib.hid (fun W h =>
    r5right_any P ap cp W.heap.size W ((hsp.belowQ (ruW_at h).2.2.1 hB).allQ (leQ hB (ruW_at h).2.2.1.size)) (Nat.le_refl _))
  have HQ : Hid (∀ W, Below (w.heap.size + 1 + 1) (RuW w k n a f.len cap) W → Calls Tryz.prog 100 #[.slice aq Q.len cq] W fun e w' => e = .returned (.bool (allR Q)) ∧ Below W.heap.size W w') := Lib.hid (fun W h =>
    r5right_any Q aq cq W.heap.size W ((hsq.belowQ (ruW_at h).2.2.1 hB).allQ (leQ hB (ruW_at h).2.2.1.size)) (Nat.le_refl _))
  have HNO : Hid (okS P Q k n f = false → ∀ W, Below (w.heap.size + 1 + 1) (RuW w k n a f.len cap) W → SuPostBQ B Bl Bh (subT P Q k n f) (subE P Q k n f) w (.returned (.tuple #[.agg #[.int .i64 0, .int .i64 0, .slice none 0 0], .int .i64 1])) (((W.setCell ⟨w.heap.size + 1, 0, none⟩ (.int .i64 0)).setCell ⟨w.heap.size + 1, 1, none⟩ (.int .i64 0)).setCell ⟨w.heap.size + 1, 2, none⟩ (.slice none 0 0))) := Lib.hid (fun h W hb => by
    rw [(okS_1 h).1, (okS_1 h).2]
    exact SuPostBQ.no ((((ruW_at hb).2.2.1.setCell (by simp) _).setCell (by simp) _).setCell (by simp) _))
  by_cases h1 : P.len ≤ 5
  · have d1 : decide ((5 : Int) < (P.len : Int)) = false := by simp; omega
    by_cases h2 : Q.len ≤ 10
    · have d2 : decide ((10 : Int) < (Q.len : Int)) = false := by simp; omega
      have HOK : Hid (okS P Q k n f = (rightB 5 10 k n f && (allR P && allR Q))) := Lib.hid (by unfold okS; rw [decide_eq_true h1, decide_eq_true h2]; rfl)
      have HRP : Hid (∀ (W : World), Below (w.heap.size + 1 + 1) (RuW w k n a f.len cap) W → rightB 5 10 k n f = true → allR P = true → allR Q = true → Calls Tryz.prog 101 #[.agg #[.int .i64 k, .int .i64 n, .slice a f.len cap], .slice ap P.len cp, .slice aq Q.len cq] W (RpPostQ B Bl Bh (sb1 P Q k n (sbF P Q f)) W)) := Lib.hid (fun W hb r1 r2 r3 => by
        obtain ⟨y1, y2, y5, y6⟩ := ruW_at hb
        obtain ⟨p1, p2, p3⟩ := right_parts r1
        exact r5sub_anyQ P Q ap aq cp cq B Bl Bh (f.size + 1) f (Nat.lt_succ_self _) (by omega) k n a cap W p1 p2 (hsp.belowQ y5 hB) (hsq.belowQ y5 hB) (hsl.belowQ y5 hB) (by omega))
      generalize hv : rightB 5 10 k n f = v at HL HOK HRP
      generalize hvp : allR P = vp at HP HOK HRP
      generalize hvq : allR Q = vq at HQ HOK HRP
      clear hv hvp hvq hsl hsp hsq
      have HB0 := Lib.hid hb0
      clear hb0
      go_enter Tryz.func90, Tryz.ntmps90
      go_wp2_with fail
      refine (HL.out _ HB0.out).mono ?_
      rintro e w1 ⟨rfl, hb1⟩
      have B1 : Hid (Below (w.heap.size + 1 + 1) (RuW w k n a f.len cap) w1) := Lib.hid (ruW_step HB0.out hb1)
      clear hb1
      obtain ⟨x1, x2, x3, x4, x5, x6, x7, x8⟩ := ruW_cells B1.out
      cases v with
      | false =>
        have HE := Lib.hid (HNO.out HOK.out w1 B1.out)
        go_wp2_with fail
        refine bodyPost_ret (v := .tuple #[.agg #[.int .i64 0, .int .i64 0, .slice none 0 0], .int .i64 1]) (by simp [results, Tryz.results90, go_sem, x4, x5, x6]) rfl ?_
        exact HE.out
      | true =>
        go_wp2_with fail
        refine (HP.out _ B1.out).mono ?_
        rintro e w2 ⟨rfl, hb2⟩
        have B2 : Hid (Below (w.heap.size + 1 + 1) (RuW w k n a f.len cap) w2) := Lib.hid (ruW_step B1.out hb2)
        clear hb2 x1 x2 x3 x4 x5 x6 x7 x8
        obtain ⟨x1, x2, x3, x4, x5, x6, x7, x8⟩ := ruW_cells B2.out
        cases vp with
        | false =>
          have HE := Lib.hid (HNO.out HOK.out w2 B2.out)
          go_wp2_with fail
          refine bodyPost_ret (v := .tuple #[.agg #[.int .i64 0, .int .i64 0, .slice none 0 0], .int .i64 1]) (by simp [results, Tryz.results90, go_sem, x4, x5, x6]) rfl ?_
          exact HE.out
        | true =>
          go_wp2_with fail
          refine (HQ.out _ B2.out).mono ?_
          rintro e w3 ⟨rfl, hb3⟩
          have B3 : Hid (Below (w.heap.size + 1 + 1) (RuW w k n a f.len cap) w3) := Lib.hid (ruW_step B2.out hb3)
          clear hb3 x1 x2 x3 x4 x5 x6 x7 x8
          obtain ⟨x1, x2, x3, x4, x5, x6, x7, x8⟩ := ruW_cells B3.out
          cases vq with
          | false =>
            have HE := Lib.hid (HNO.out HOK.out w3 B3.out)
            go_wp2_with fail
            refine bodyPost_ret (v := .tuple #[.agg #[.int .i64 0, .int .i64 0, .slice none 0 0], .int .i64 1]) (by simp [results, Tryz.results90, go_sem, x4, x5, x6]) rfl ?_
            exact HE.out
          | true =>
            go_wp2_with fail
            refine (HRP.out _ B3.out trivial trivial trivial).mono ?_
            rintro e w4 ⟨k2, n2, F2, a2, c2, hT, rfl, t1, t2⟩
            have B4 : Hid (Below (w.heap.size + 1 + 1) (RuW w k n a f.len cap) w4) := Lib.hid (ruW_step B3.out t2)
            clear x1 x2 x3 x4 x5 x6 x7 x8
            have HF := Lib.hid (ru_finBQ hB HOK.out hT B4.out (ruW_at B3.out).2.2.2 t1)
            clear t1 t2
            have B5 : Hid (Below (w.heap.size + 1 + 1) (RuW w k n a f.len cap) (w4.alloc (.cells #[.int .i64 k2, .int .i64 n2, .slice a2 F2.len c2] 45))) := Lib.hid (ruW_step B4.out ((Below.refl _ _).alloc (Nat.le_refl _) _))
            have HR := Lib.hid HF.out.1
            have HF2 := Lib.hid HF.out.2
            clear HF hT
            generalize rightB 5 10 k2 n2 F2 = vr at HR HF2
            go_wp2_with fail
            refine HR.out.mono ?_
            rintro e w5 ⟨rfl, hb5⟩
            have B6 : Hid (Below (w.heap.size + 1 + 1) (RuW w k n a f.len cap) w5) := Lib.hid (ruW_step B5.out hb5)
            obtain ⟨x1, x2, x3, x4, x5, x6, x7, x8⟩ := ruW_cells B6.out
            have y0 := (bcell (by simpa using hb5) w4.heap.size 0 (Nat.lt_succ_self _)).trans (cell_at (heap_new w4 (.cells #[.int .i64 k2, .int .i64 n2, .slice a2 F2.len c2] 45)) 0)
            have y1 := (bcell (by simpa using hb5) w4.heap.size 1 (Nat.lt_succ_self _)).trans (cell_at (heap_new w4 (.cells #[.int .i64 k2, .int .i64 n2, .slice a2 F2.len c2] 45)) 1)
            have y2 := (bcell (by simpa using hb5) w4.heap.size 2 (Nat.lt_succ_self _)).trans (cell_at (heap_new w4 (.cells #[.int .i64 k2, .int .i64 n2, .slice a2 F2.len c2] 45)) 2)
            simp at y0 y1 y2
            have HG := Lib.hid (HF2.out w5 hb5)
            clear hb5
            cases vr with
            | false =>
              have HE := Lib.hid (HG.out.2 rfl)
              clear HG
              go_wp2_with fail
              refine bodyPost_ret (v := .tuple #[.agg #[.int .i64 0, .int .i64 0, .slice none 0 0], .int .i64 2]) (by simp [results, Tryz.results90, go_sem, x4, x5, x6]) rfl ?_
              exact HE.out
            | true =>
              have HE := Lib.hid (HG.out.1 rfl)
              clear HG
              go_wp2_with fail
              refine bodyPost_ret (v := .tuple #[.agg #[.int .i64 k2, .int .i64 n2, .slice a2 F2.len c2], .int .i64 0]) (by simp [results, Tryz.results90, go_sem, x4, x5, x6]) rfl ?_
              exact HE.out
    · have d2 : decide ((10 : Int) < (Q.len : Int)) = true := by simp; omega
      have hok : okS P Q k n f = false := by unfold okS; rw [decide_eq_false h2]; simp
      have HE := Lib.hid (HNO.out hok)
      generalize rightB 5 10 k n f = v at HL
      have HB0 := Lib.hid hb0
      clear hsl hsp hsq hb0 HNO
      go_enter Tryz.func90, Tryz.ntmps90
      go_wp2_with fail
      refine (HL.out _ HB0.out).mono ?_
      rintro e w1 ⟨rfl, hb1⟩
      have B1 : Hid (Below (w.heap.size + 1 + 1) (RuW w k n a f.len cap) w1) := Lib.hid (ruW_step HB0.out hb1)
      clear hb1
      obtain ⟨x1, x2, x3, x4, x5, x6, x7, x8⟩ := ruW_cells B1.out
      cases v
      all_goals
        go_wp2_with fail
        refine bodyPost_ret (v := .tuple #[.agg #[.int .i64 0, .int .i64 0, .slice none 0 0], .int .i64 1]) (by simp [results, Tryz.results90, go_sem, x4, x5, x6]) rfl ?_
        exact HE.out w1 B1.out
  · have d1 : decide ((5 : Int) < (P.len : Int)) = true := by simp; omega
    have hok : okS P Q k n f = false := by unfold okS; rw [decide_eq_false h1]; simp
    have HE := Lib.hid (HNO.out hok)
    generalize rightB 5 10 k n f = v at HL
    have HB0 := Lib.hid hb0
    clear hsl hsp hsq hb0 HNO
    go_enter Tryz.func90, Tryz.ntmps90
    go_wp2_with fail
    refine (HL.out _ HB0.out).mono ?_
    rintro e w1 ⟨rfl, hb1⟩
    have B1 : Hid (Below (w.heap.size + 1 + 1) (RuW w k n a f.len cap) w1) := Lib.hid (ruW_step HB0.out hb1)
    clear hb1
    obtain ⟨x1, x2, x3, x4, x5, x6, x7, x8⟩ := ruW_cells B1.out
    cases v
    all_goals
      go_wp2_with fail
      refine bodyPost_ret (v := .tuple #[.agg #[.int .i64 0, .int .i64 0, .slice none 0 0], .int .i64 1]) (by simp [results, Tryz.results90, go_sem, x4, x5, x6]) rfl ?_
      exact HE.out w1 B1.out
end Go.Proofs.YtnfhpombnbpdcaaGreat
namespace Go.Proofs.YtnfhpombnbpdcaaGreat
open Go.RowKit
def TcRQ (w : World) (o : Obj) (OB B : Nat) (Bl : Nat → Nat) (Bh : Nat) (k n : Int) (G : Fo) (v : Value) (wr : World) : Prop :=
  wr.heap[w.heap.size]? = some o ∧ wr.heap[w.heap.size + 1]? = some (.cells #[.int .i64 0, .int .i64 0, .slice none 0 0, .slice none 0 0] 30 (0, 0)) ∧ wr.heap[OB]? = some (.cells #[.int .i64 k, .int .i64 n, v, .slice none 0 0] 30 (0, 0)) ∧ KsMixQ B Bl Bh (OB + 1) wr v G ∧ w.heap.size + 1 < OB ∧ (B ≤ w.heap.size ∧ Bh ≤ w.heap.size) ∧ Below w.heap.size w wr
theorem TcRQ.facts {w : World} {ob : Obj} {OB B : Nat} {Bl : Nat → Nat} {Bh : Nat} {k n : Int} {G : Fo} {v : Value} {wr : World} (h : TcRQ w ob OB B Bl Bh k n G v wr) :
    wr.heap[w.heap.size]? = some ob ∧ wr.cell? ⟨OB, 2, none⟩ = some v ∧ (∀ o, wr.frozen? ⟨OB, o, none⟩ = false) ∧ OB < wr.heap.size ∧ Below w.heap.size w wr := by
  obtain ⟨h0, h1, h2, _, _, _, h6⟩ := h
  exact ⟨h0, cell_at h2 2, free_of h2, lt_of_block h2, h6⟩
theorem TcRQ.next {w : World} {ob : Obj} {OB B : Nat} {Bl : Nat → Nat} {Bh : Nat} {k n : Int} {G : Fo} {v : Value} {wr : World} (h : TcRQ w ob OB B Bl Bh k n G v wr) (hG : G.len ≤ 1000) {k' n' : Int} {F' : Fo} {w2 : World} {x' : Option Addr} {c' : Nat} (hs : SlIn w2 (fun b => ((b < B ∨ (Bl b = 0 ∧ b < Bh)) ∨ wr.heap.size ≤ b) ∧ b < w2.heap.size) F' x' c') (hb : Below wr.heap.size wr w2) :
    w2.cell? ⟨OB, 2, none⟩ = some v ∧ OB < w2.heap.size ∧ ∃ g' cap' w3, (Builtin.append_ #[27, 27] 27 #[v, .slice (some ⟨w2.heap.size, 0, none⟩) 1 1]).run Tryz.prog (w2.alloc (.cells #[.int .i64 k', .int .i64 n', .slice x' F'.len c'] 45)) = .ok (.slice (some ⟨g', 0, none⟩) (G.len + 1) cap') w3 ∧
      w3.cell? ⟨OB, 2, none⟩ = some v ∧ (∀ o, w3.frozen? ⟨OB, o, none⟩ = false) ∧ TcRQ w ob OB B Bl Bh k n (G.app (.cons k' n' F' .nil)) (.slice (some ⟨g', 0, none⟩) (G.len + 1) cap') (w3.setCell ⟨OB, 2, none⟩ (.slice (some ⟨g', 0, none⟩) (G.len + 1) cap')) := by
  obtain ⟨h0, h1, h2, h3, h4, h5, h6⟩ := h
  have hlt := lt_of_block h2
  have e0 := (hb.block _ (lt_of_block h0)).trans h0
  have e1 := (hb.block _ (lt_of_block h1)).trans h1
  have e2 := (hb.block _ hlt).trans h2
  have hz := hb.size
  obtain ⟨g', cap', w3, hrun, k3, same, z3, o1, o2, o3⟩ := (h3.later hb).append k' n' (h3.fresh (by omega) (by omega) hs) 27 hG (by omega) (by omega)
  have nv : ∀ b, b ≤ OB → some b ≠ v.ownBlock := fun b hb e => by have := (h3.lt b e.symm).1; omega
  have f0 := (same _ (lt_of_block e0) (nv _ (by omega))).trans e0
  have f1 := (same _ (lt_of_block e1) (nv _ (by omega))).trans e1
  have f2 := (same _ (lt_of_block e2) (nv _ (by omega))).trans e2
  have n0 : w.heap.size ≠ OB := by omega
  have n1 : w.heap.size + 1 ≠ OB := by omega
  refine ⟨cell_at e2 2, lt_of_block e2, g', cap', w3, hrun, cell_at f2 2, free_of f2, (Below.heap_setCell _ _ _ _ n0).trans f0, (Below.heap_setCell _ _ _ _ n1).trans f1, heap_setCell_same w3 _ 2 _ _ _ f2, k3.setLow (by omega) (by omega) 2 _, h4, h5, ?_⟩
  refine ⟨(o1.trans hb.os).trans h6.os, (o2.trans hb.tape).trans h6.tape, (o3.trans hb.output).trans h6.output, ?_, fun q hq => ?_⟩
  · have := h6.size; simp; omega
  · have hq6 := h6.size
    have nq : q ≠ OB := by omega
    rw [Below.heap_setCell _ _ _ _ nq, same q (by omega) (nv q (by omega)), hb.block q (by omega)]
    exact h6.block q hq
theorem TcRQ.start {w : World} {k n : Int} {B : Nat} {Bl : Nat → Nat} {Bh : Nat} (o1 : Obj) (hB : (B ≤ w.heap.size ∧ Bh ≤ w.heap.size)) :
    TcRQ w o1 (w.heap.size + 1 + 1) B Bl Bh k n .nil (.slice none 0 0) (((w.alloc o1).alloc (.cells #[.int .i64 0, .int .i64 0, .slice none 0 0, .slice none 0 0] 30)).alloc (.cells #[.int .i64 k, .int .i64 n, .slice none 0 0, .slice none 0 0] 30)) := by
  refine ⟨(heap_old _ _ (by simp; omega)).trans ((heap_old _ _ (by simp)).trans (heap_new _ _)), (heap_old _ _ (by simp)).trans (heap_second _ _ _), ?_, KsMixQ.nil _ _ _ _ _, by omega, hB, (((Below.refl _ _).alloc (Nat.le_refl _) _).alloc (by simp) _).alloc (by simp; omega) _⟩
  have := heap_second (w.alloc o1) (.cells #[.int .i64 0, .int .i64 0, .slice none 0 0, .slice none 0 0] 30) (.cells #[.int .i64 k, .int .i64 n, .slice none 0 0, .slice none 0 0] 30)
  simpa using this
def TcKQ (w : World) (o : Obj) (OB lo B : Nat) (Bl : Nat → Nat) (Bh : Nat) (k n : Int) (L : Fo) (x : Option Addr) (c : Nat) (G : Ft) (v : Value) (wr : World) : Prop :=
  wr.heap[w.heap.size]? = some o ∧ wr.heap[w.heap.size + 1]? = some (.cells #[.int .i64 0, .int .i64 0, .slice none 0 0, .slice none 0 0] 30 (0, 0)) ∧ wr.heap[OB]? = some (.cells #[.int .i64 k, .int .i64 n, .slice x L.len c, v] 30 (0, 0)) ∧ SlIn wr (fun b => ((b < B ∨ (Bl b = 0 ∧ b < Bh)) ∨ OB < b) ∧ b < lo) L x c ∧ TsMixQ B Bl Bh lo wr v G ∧ (w.heap.size + 1 < OB ∧ OB < lo ∧ lo ≤ wr.heap.size) ∧ (B ≤ w.heap.size ∧ Bh ≤ w.heap.size) ∧ Below w.heap.size w wr
theorem TcRQ.kids {w : World} {ob : Obj} {OB B : Nat} {Bl : Nat → Nat} {Bh : Nat} {k n : Int} {G : Fo} {v : Value} {wr : World} (h : TcRQ w ob OB B Bl Bh k n G v wr) : ∃ x c, v = .slice x G.len c ∧ TcKQ w ob OB wr.heap.size B Bl Bh k n G x c .nil (.slice none 0 0) wr := by
  obtain ⟨h0, h1, h2, h3, h4, h5, h6⟩ := h
  obtain ⟨x, c, rfl, hsl⟩ := h3.slice
  exact ⟨x, c, rfl, h0, h1, h2, hsl.weak (fun b hb => ⟨by omega, hb.2⟩), TsMixQ.nil _ _ _ _ _, ⟨h4, lt_of_block h2, Nat.le_refl _⟩, h5, h6⟩
theorem TcKQ.facts {w : World} {ob : Obj} {OB lo B : Nat} {Bl : Nat → Nat} {Bh : Nat} {k n : Int} {L : Fo} {x : Option Addr} {c : Nat} {G : Ft} {v : Value} {wr : World} (h : TcKQ w ob OB lo B Bl Bh k n L x c G v wr) :
    wr.heap[w.heap.size]? = some ob ∧ (wr.cell? ⟨w.heap.size + 1, 0, none⟩ = some (.int .i64 0) ∧ wr.cell? ⟨w.heap.size + 1, 1, none⟩ = some (.int .i64 0) ∧ wr.cell? ⟨w.heap.size + 1, 2, none⟩ = some (.slice none 0 0) ∧ wr.cell? ⟨w.heap.size + 1, 3, none⟩ = some (.slice none 0 0) ∧ (∀ o, wr.frozen? ⟨w.heap.size + 1, o, none⟩ = false)) ∧
    (wr.cell? ⟨OB, 0, none⟩ = some (.int .i64 k) ∧ wr.cell? ⟨OB, 1, none⟩ = some (.int .i64 n) ∧ wr.cell? ⟨OB, 2, none⟩ = some (.slice x L.len c) ∧ wr.cell? ⟨OB, 3, none⟩ = some v ∧ (∀ o, wr.frozen? ⟨OB, o, none⟩ = false)) ∧ OB < wr.heap.size ∧ Below w.heap.size w wr := by
  obtain ⟨h0, h1, h2, _, _, _, _, h6⟩ := h
  exact ⟨h0, ⟨cell_at h1 0, cell_at h1 1, cell_at h1 2, cell_at h1 3, free_of h1⟩, ⟨cell_at h2 0, cell_at h2 1, cell_at h2 2, cell_at h2 3, free_of h2⟩, lt_of_block h2, h6⟩
theorem TcKQ.next {w : World} {ob : Obj} {OB lo B : Nat} {Bl : Nat → Nat} {Bh : Nat} {k n : Int} {L : Fo} {x : Option Addr} {c : Nat} {G : Ft} {v : Value} {wr : World} (h : TcKQ w ob OB lo B Bl Bh k n L x c G v wr) (hG : G.len ≤ 1000) {T : Tm} {w2 : World} {x1 x2 : Option Addr} {c1 c2 : Nat}
    (hl : SlIn w2 (fun b => ((b < B ∨ (Bl b = 0 ∧ b < Bh)) ∨ wr.heap.size ≤ b) ∧ b < w2.heap.size) T.ls x1 c1) (hs : TlIn w2 (fun b => ((b < B ∨ (Bl b = 0 ∧ b < Bh)) ∨ wr.heap.size ≤ b) ∧ b < w2.heap.size) T.ks x2 c2) (hb : Below wr.heap.size wr w2) :
    w2.cell? ⟨OB, 3, none⟩ = some v ∧ OB < w2.heap.size ∧ ∃ g' cap' w3, (Builtin.append_ #[28, 28] 28 #[v, .slice (some ⟨w2.heap.size, 0, none⟩) 1 1]).run Tryz.prog (w2.alloc (.cells #[.int .i64 T.k, .int .i64 T.n, .slice x1 T.ls.len c1, .slice x2 T.ks.len c2] 30)) = .ok (.slice (some ⟨g', 0, none⟩) (G.len + 1) cap') w3 ∧
      w3.cell? ⟨OB, 3, none⟩ = some v ∧ (∀ o, w3.frozen? ⟨OB, o, none⟩ = false) ∧ TcKQ w ob OB lo B Bl Bh k n L x c (G.app T.one) (.slice (some ⟨g', 0, none⟩) (G.len + 1) cap') (w3.setCell ⟨OB, 3, none⟩ (.slice (some ⟨g', 0, none⟩) (G.len + 1) cap')) := by
  obtain ⟨h0, h1, h2, hL, h3, ⟨h4, h4', h4''⟩, h5, h6⟩ := h
  have hlt := lt_of_block h2
  have e0 := (hb.block _ (lt_of_block h0)).trans h0
  have e1 := (hb.block _ (lt_of_block h1)).trans h1
  have e2 := (hb.block _ hlt).trans h2
  have hz := hb.size
  have hM : ∀ b, ((b < B ∨ (Bl b = 0 ∧ b < Bh)) ∨ wr.heap.size ≤ b) ∧ b < w2.heap.size → MxQ B Bl Bh lo w2 v b := fun b hb' => h3.out (by omega) (by omega) hb'
  obtain ⟨g', cap', w3, hrun, k3, same, z3, o1, o2, o3⟩ := (h3.later hb).append T.k T.n (hl.weak hM) (hs.weak hM) 28 hG (by omega)
  have nv : ∀ b, b < lo → some b ≠ v.ownBlock := fun b hb e => by have := (h3.lt b e.symm).1; omega
  have f0 := (same _ (lt_of_block e0) (nv _ (by omega))).trans e0
  have f1 := (same _ (lt_of_block e1) (nv _ (by omega))).trans e1
  have f2 := (same _ (lt_of_block e2) (nv _ (by omega))).trans e2
  have n0 : w.heap.size ≠ OB := by omega
  have n1 : w.heap.size + 1 ≠ OB := by omega
  have hq6 := h6.size
  refine ⟨cell_at e2 3, lt_of_block e2, g', cap', w3, hrun, cell_at f2 3, free_of f2, (Below.heap_setCell _ _ _ _ n0).trans f0, (Below.heap_setCell _ _ _ _ n1).trans f1, heap_setCell_same w3 _ 3 _ _ _ f2, ?_, k3.setLow (by omega) (by omega) 3 _, ⟨h4, h4', by simp; omega⟩, h5, ?_⟩
  · refine hL.keep (fun b hb' => ?_)
    have nb : b ≠ OB := by omega
    rw [Below.heap_setCell _ _ _ _ nb, same b (by omega) (nv b hb'.2), hb.block b (by omega)]
  · refine ⟨(o1.trans hb.os).trans h6.os, (o2.trans hb.tape).trans h6.tape, (o3.trans hb.output).trans h6.output, by simp; omega, fun q hq => ?_⟩
    have nq : q ≠ OB := by omega
    rw [Below.heap_setCell _ _ _ _ nq, same q (by omega) (nv q (by omega)), hb.block q (by omega)]
    exact h6.block q hq
theorem TcKQ.done {w : World} {ob : Obj} {OB lo B : Nat} {Bl : Nat → Nat} {Bh : Nat} {k n : Int} {L : Fo} {x : Option Addr} {c : Nat} {G : Ft} {v : Value} {wr : World} (h : TcKQ w ob OB lo B Bl Bh k n L x c G v wr) : ∃ y d, v = .slice y G.len d ∧
    TmPostQ B Bl Bh ⟨k, n, L, G⟩ w (.returned (.agg #[.int .i64 k, .int .i64 n, .slice x L.len c, .slice y G.len d])) ((((wr.setCell ⟨w.heap.size + 1, 0, none⟩ (.int .i64 k)).setCell ⟨w.heap.size + 1, 1, none⟩ (.int .i64 n)).setCell ⟨w.heap.size + 1, 2, none⟩ (.slice x L.len c)).setCell ⟨w.heap.size + 1, 3, none⟩ (.slice y G.len d)) := by
  obtain ⟨h0, h1, h2, hL, h3, ⟨h4, h4', h4''⟩, h5, h6⟩ := h
  obtain ⟨y, d, rfl, hsl⟩ := h3.slice
  have hg := set4_only (w := wr) (w.heap.size + 1) (.int .i64 k) (.int .i64 n) (.slice x L.len c) (.slice y G.len d)
  have hz := h6.size
  have hgz := hg.size
  refine ⟨y, d, rfl, x, c, y, d, rfl, ?_, ?_, ?_⟩
  · exact (hL.keep (fun b hb => Only.block hg (by omega) (by omega))).weak (fun b hb => ⟨by omega, by omega⟩)
  · exact hsl.turn (fun b hb => Only.block hg hb.2 (by omega)) (fun b hb => ⟨by omega, by omega⟩)
  · exact ⟨hg.os.trans h6.os, hg.tape.trans h6.tape, hg.output.trans h6.output, Nat.le_trans h6.size hg.size, fun q hq => (Only.block hg (by omega) (by omega)).trans (h6.block q hq)⟩
end Go.Proofs.YtnfhpombnbpdcaaGreat
namespace Go.Proofs.YtnfhpombnbpdcaaGreat
open Go.RowKit
def QsPostQ (B : Nat) (Bl : Nat → Nat) (Bh : Nat) (A : Tm × Bool) (w : World) (e : Ending) (w' : World) : Prop :=
  ∃ (la : Option Addr) (lc : Nat) (x : Option Addr) (c : Nat), e = .returned (.tuple #[.agg #[.int .i64 A.1.k, .int .i64 A.1.n, .slice la A.1.ls.len lc, .slice x A.1.ks.len c], .bool A.2]) ∧ SlIn w' (fun b => ((b < B ∨ (Bl b = 0 ∧ b < Bh)) ∨ w.heap.size ≤ b) ∧ b < w'.heap.size) A.1.ls la lc ∧ TlIn w' (fun b => ((b < B ∨ (Bl b = 0 ∧ b < Bh)) ∨ w.heap.size ≤ b) ∧ b < w'.heap.size) A.1.ks x c ∧ Below w.heap.size w w'
theorem QsPostQ.no {B : Nat} {Bl : Nat → Nat} {Bh : Nat} {w w' : World} (h : Below w.heap.size w w') : QsPostQ B Bl Bh (tZ, false) w (.returned (.tuple #[.agg #[.int .i64 0, .int .i64 0, .slice none 0 0, .slice none 0 0], .bool false])) w' := ⟨none, 0, none, 0, rfl, SlIn.none _ _, TlIn.none _ _, h⟩
theorem QsPostQ.of {B : Nat} {Bl : Nat → Nat} {Bh : Nat} {T : Tm} {w w' : World} {la x : Option Addr} {lc c : Nat} (h : TmPostQ B Bl Bh T w (.returned (.agg #[.int .i64 T.k, .int .i64 T.n, .slice la T.ls.len lc, .slice x T.ks.len c])) w') : QsPostQ B Bl Bh (T, true) w (.returned (.tuple #[.agg #[.int .i64 T.k, .int .i64 T.n, .slice la T.ls.len lc, .slice x T.ks.len c], .bool true])) w' := by
  obtain ⟨la', lc', x', c', he, h1, h2, h3⟩ := h
  simp only [Ending.returned.injEq, Value.agg.injEq, Array.mk.injEq, List.cons.injEq, Value.slice.injEq, true_and, and_true] at he
  obtain ⟨⟨rfl, rfl⟩, rfl, rfl⟩ := he
  exact ⟨_, _, _, _, rfl, h1, h2, h3⟩
set_option maxRecDepth 100000 in
set_option maxHeartbeats 8000000 in
theorem r15sub_anyQ (P Q : Fo) (ap aq : Option Addr) (cp cq B : Nat) (Bl : Nat → Nat) (Bh : Nat) (s : Nat) : ∀ (f : Ft), f.size < s → f.size ≤ 1000 → f.lvsz 1000 → ∀ (k n : Int) (ls : Fo) (la ka : Option Addr) (lc kc : Nat) (w : World), ls.size ≤ 1000 → SlIn w (fun b => b < B ∨ (Bl b = 0 ∧ b < Bh)) P ap cp → SlIn w (fun b => b < B ∨ (Bl b = 0 ∧ b < Bh)) Q aq cq → SlIn w (fun b => b < B ∨ (Bl b = 0 ∧ b < Bh)) ls la lc → TlIn w (fun b => b < B ∨ (Bl b = 0 ∧ b < Bh)) f ka kc → (B ≤ w.heap.size ∧ Bh ≤ w.heap.size) →
    Calls Tryz.prog 70 #[.agg #[.int .i64 k, .int .i64 n, .slice la ls.len lc, .slice ka f.len kc], .slice ap P.len cp, .slice aq Q.len cq] w (QsPostQ B Bl Bh (qS P Q ⟨k, n, ls, f⟩) w) := by
  induction s with
  | zero => intro f hs; omega
  | succ s ih =>
    intro f hs hsz hlv k n ls la ka lc kc w hlz hsp hsq hls hsl hB
    have IH := Lib.hid ih
    clear ih
    have hlen := hsl.len
    have hlen2 := hls.len
    have HSL := Lib.hid hsl
    have HLS := Lib.hid hls
    have HSP := Lib.hid hsp
    have HSQ := Lib.hid hsq
    have HLV := Lib.hid hlv
    have HS := Lib.hid (TcRQ.start (Bl := Bl) (w := w) (k := k) (n := n) (.cells #[.int .i64 k, .int .i64 n, .slice la ls.len lc, .slice ka f.len kc] 30) hB)
    clear hsl hls hsp hsq hlv
    go_enter Tryz.func70, Tryz.ntmps70
    go_wp2_with fail
    go_loopw [9] (fun jv wr => ∃ (j : Nat) (G rest L' : Fo) (v : Value), jv = .int .i64 j ∧ Hid (ls = G.app rest) ∧ Hid (G.len = j) ∧ Hid (L' = sbF P Q G ∧ L'.len = j ∧ lvOkB P Q G = true) ∧ Hid (TcRQ w (.cells #[.int .i64 k, .int .i64 n, .slice la ls.len lc, .slice ka f.len kc] 30) (w.heap.size + 1 + 1) B Bl Bh k n L' v wr)) (fun jv _ => ls.len - (intOf jv).toNat)
    case atStart => exact ⟨0, .nil, ls, .nil, _, rfl, Lib.hid rfl, Lib.hid rfl, Lib.hid ⟨rfl, rfl, rfl⟩, HS⟩
    case round =>
      obtain ⟨j, G, rest, L', v, rfl, hf, hj, hL, hR⟩ := hrel
      obtain ⟨hbox, q2, qz, hob, hwr⟩ := hR.out.facts
      obtain ⟨c0, c1, c2, c3⟩ := cells4 hbox
      cases rest with
      | nil =>
        have hjl : ¬ (j : Int) < (ls.len : Int) := by rw [hf.out, foNil3, hj.out]; omega
        have dj : decide ((j : Int) < (ls.len : Int)) = false := by simpa using hjl
        obtain ⟨x, c, rfl, hK⟩ := hR.out.kids
        have HG : Hid (ls = G) := Lib.hid (by rw [hf.out, foNil3])
        have HK := Lib.hid hK
        have HL : Hid (L' = sbF P Q ls ∧ True ∧ lvOkB P Q ls = true) := Lib.hid (by rw [HG.out]; exact ⟨hL.out.1, trivial, hL.out.2.2⟩)
        obtain ⟨W, hW⟩ : ∃ W, W = wr := ⟨_, rfl⟩
        rw [← hW] at c2 c3 HK q2 qz hob hwr hbox ⊢
        clear hK hR hf hj hW hbox c0 c1
        go_wp2_with fail
        go_loopw [12] (fun jv wr => ∃ (j : Nat) (H rest : Ft) (v : Value), jv = .int .i64 j ∧ Hid (f = H.app rest) ∧ Hid (H.len = j) ∧ Hid (qOk P Q H = true) ∧ Hid (TcKQ w (.cells #[.int .i64 k, .int .i64 n, .slice la ls.len lc, .slice ka f.len kc] 30) (w.heap.size + 1 + 1) W.heap.size B Bl Bh k n L' x c (qF P Q H) v wr)) (fun jv _ => f.len - (intOf jv).toNat)
        case atStart => exact ⟨0, .nil, f, _, rfl, Lib.hid rfl, Lib.hid rfl, Lib.hid rfl, HK⟩
        case round =>
          clear c2 c3 q2 qz hob hwr
          obtain ⟨j, H, rest, v, rfl, hf, hj, hQ, hR⟩ := hrel
          obtain ⟨hbox, ⟨g0, g1, g2, g3, gz⟩, ⟨q0, q1, q2, q3, qz⟩, hob, hwr⟩ := hR.out.facts
          obtain ⟨c0, c1, c2, c3⟩ := cells4 hbox
          cases rest with
          | nil =>
            have hjl' : ¬ (j : Int) < (f.len : Int) := by rw [hf.out, Ft.app_nil, hj.out]; omega
            have dj' : decide ((j : Int) < (f.len : Int)) = false := by simpa using hjl'
            obtain ⟨y, d, rfl, hE⟩ := hR.out.done
            have HE := Lib.hid (QsPostQ.of (T := ⟨k, n, L', qF P Q H⟩) hE)
            have HF : Hid (qS P Q ⟨k, n, ls, f⟩ = (⟨k, n, L', qF P Q H⟩, true)) := Lib.hid (by
              have e1 : f = H := by rw [hf.out, Ft.app_nil]
              rw [qS_yes (by unfold Tm.qok; show (lvOkB P Q ls && qOk P Q f) = true; rw [HL.out.2.2, e1, hQ.out]; rfl)]
              unfold Tm.q
              rw [HL.out.1, e1])
            clear hE hR hf hbox c0 c1 c2
            go_wp2_with fail
            refine bodyPost_ret (v := .tuple #[.agg #[.int .i64 k, .int .i64 n, .slice x L'.len c, .slice y (qF P Q H).len d], .bool true]) (by simp [results, Tryz.results70, go_sem, g0, g1, g2, g3]) rfl ?_
            rw [HF.out]
            exact HE.out
          | cons k' n' ls' ks r' =>
            have hjn : j < f.len := by rw [hf.out, Ft.app_len, hj.out]; simp [Ft.len]
            have hjl2 : (j : Int) < (f.len : Int) := by omega
            obtain ⟨bq, o, rfl, hbB, hf0⟩ := HSL.out.some (by omega)
            have hfa : FtIn w (fun b => b < B ∨ (Bl b = 0 ∧ b < Bh)) (.cons k' n' ls' ks r') bq (o + j * 4) := by
              have h1 := hf0
              rw [hf.out] at h1
              rw [← hj.out]
              exact FtIn.behind H _ bq o h1
            obtain ⟨e0, e1, ⟨la', lc', e2, hls'⟩, ⟨ka', kc', e3, hsl'⟩, _⟩ := (hfa.belowQ hwr hB _ _ _ hbB).first
            have hfs : f.size = H.size + (ks.size + r'.size + 1) := by rw [hf.out, Ft.app_size]; rfl
            have hks : ks.size < s := by omega
            have hlv' : ls'.size ≤ 1000 ∧ ks.lvsz 1000 := by
              have h1 := HLV.out
              rw [hf.out, Ft.lvsz_app] at h1
              exact ⟨h1.2.1, h1.2.2.1⟩
            have hBr : (B ≤ wr.heap.size ∧ Bh ≤ wr.heap.size) := leQ hB hwr.size
            have HC : Hid (Calls Tryz.prog 70 #[.agg #[.int .i64 k', .int .i64 n', .slice la' ls'.len lc', .slice ka' ks.len kc'], .slice ap P.len cp, .slice aq Q.len cq] wr (QsPostQ B Bl Bh (qS P Q ⟨k', n', ls', ks⟩) wr)) :=
              Lib.hid (IH.out ks hks (by omega) hlv'.2 k' n' ls' la' ka' lc' kc' wr hlv'.1 (HSP.out.belowQ hwr hB) (HSQ.out.belowQ hwr hB) hls' hsl' hBr)
            cases hE : (⟨k', n', ls', ks⟩ : Tm).qok P Q with
            | true =>
              rw [qS_yes hE] at HC
              have hE2 := hE
              unfold Tm.qok at hE2
              have HT : Hid ((⟨k', n', ls', ks⟩ : Tm).q P Q = ⟨k', n', sbF P Q ls', qF P Q ks⟩) := Lib.hid rfl
              have HQ2 : Hid (qF P Q (H.app (.cons k' n' ls' ks .nil)) = (qF P Q H).app ((⟨k', n', ls', ks⟩ : Tm).q P Q).one ∧ qOk P Q (H.app (.cons k' n' ls' ks .nil)) = true) := Lib.hid (by
                refine ⟨by rw [qF_app]; rfl, ?_⟩
                rw [qOk_app, hQ.out]
                show (true && ((lvOkB P Q ls' && qOk P Q ks) && true)) = true
                rw [show (lvOkB P Q ls' && qOk P Q ks) = true from hE2]; rfl)
              have hHl : (qF P Q H).len = j := by rw [qF_len, hj.out]
              generalize (⟨k', n', ls', ks⟩ : Tm).q P Q = T at HC HQ2
              have HAP : Hid (∀ (e : Ending) (w2 : World), QsPostQ B Bl Bh (T, true) wr e w2 → ∃ (x1 : Option Addr) (y1 : Nat) (x2 : Option Addr) (y2 : Nat), e = .returned (.tuple #[.agg #[.int .i64 T.k, .int .i64 T.n, .slice x1 T.ls.len y1, .slice x2 T.ks.len y2], .bool true]) ∧
                  (w2.alloc (.cells #[.int .i64 T.k, .int .i64 T.n, .slice x1 T.ls.len y1, .slice x2 T.ks.len y2] 30)).cell? ⟨w.heap.size + 1 + 1, 3, none⟩ = some v ∧ w.heap.size + 1 + 1 < w2.heap.size ∧ ((w2.alloc (.cells #[.int .i64 T.k, .int .i64 T.n, .slice x1 T.ls.len y1, .slice x2 T.ks.len y2] 30)).alloc (.cells #[.int .i64 T.k, .int .i64 T.n, .slice x1 T.ls.len y1, .slice x2 T.ks.len y2] 30)).cell? ⟨w.heap.size + 1 + 1, 3, none⟩ = some v ∧
                  ∃ g' cap' w3, Hid ((Builtin.append_ #[28, 28] 28 #[v, .slice (some ⟨w2.heap.size + 1, 0, none⟩) 1 1]).run Tryz.prog ((w2.alloc (.cells #[.int .i64 T.k, .int .i64 T.n, .slice x1 T.ls.len y1, .slice x2 T.ks.len y2] 30)).alloc (.cells #[.int .i64 T.k, .int .i64 T.n, .slice x1 T.ls.len y1, .slice x2 T.ks.len y2] 30)) = .ok (.slice (some ⟨g', 0, none⟩) (j + 1) cap') w3) ∧
                    w3.cell? ⟨w.heap.size + 1 + 1, 3, none⟩ = some v ∧ (∀ o, w3.frozen? ⟨w.heap.size + 1 + 1, o, none⟩ = false) ∧ Hid (TcKQ w (.cells #[.int .i64 k, .int .i64 n, .slice la ls.len lc, .slice (some ⟨bq, o, none⟩) f.len kc] 30) (w.heap.size + 1 + 1) W.heap.size B Bl Bh k n L' x c (qF P Q (H.app (.cons k' n' ls' ks .nil))) (.slice (some ⟨g', 0, none⟩) (j + 1) cap') (w3.setCell ⟨w.heap.size + 1 + 1, 3, none⟩ (.slice (some ⟨g', 0, none⟩) (j + 1) cap')))) := Lib.hid (by
                rintro e w2 ⟨x1, y1, x2, y2, rfl, t0, t1, t2⟩
                have hbx : Below w2.heap.size w2 (w2.alloc (.cells #[.int .i64 T.k, .int .i64 T.n, .slice x1 T.ls.len y1, .slice x2 T.ks.len y2] 30)) := (Below.refl _ _).alloc (Nat.le_refl _) _
                have hG1 : (qF P Q H).len ≤ 1000 := by rw [hHl]; have h1 := Ft.len_le_size f; omega
                have hP : ∀ q, ((q < B ∨ (Bl q = 0 ∧ q < Bh)) ∨ wr.heap.size ≤ q) ∧ q < w2.heap.size → ((q < B ∨ (Bl q = 0 ∧ q < Bh)) ∨ wr.heap.size ≤ q) ∧ q < (w2.alloc (.cells #[.int .i64 T.k, .int .i64 T.n, .slice x1 T.ls.len y1, .slice x2 T.ks.len y2] 30)).heap.size := fun q hq => ⟨hq.1, by simp; omega⟩
                obtain ⟨L2, hlb2, g', cap', w3, hrun, L3, Z3, hN⟩ := TcKQ.next (T := T) hR.out hG1 ((t0.keep (fun b hb => hbx.block b hb.2)).weak hP) (t1.turn (fun b hb => hbx.block b hb.2) hP) (Below.step t2 hbx (Nat.le_refl _))
                rw [hHl] at hrun hN
                rw [HQ2.out.1]
                simp only [World.size_alloc] at hrun
                exact ⟨x1, y1, x2, y2, rfl, L2, Nat.lt_of_lt_of_le hob t2.size, (World.cell?_of_block (w := w2.alloc (.cells #[.int .i64 T.k, .int .i64 T.n, .slice x1 T.ls.len y1, .slice x2 T.ks.len y2] 30)) (a := ⟨w.heap.size + 1 + 1, 3, none⟩) (heap_old _ _ hlb2)).trans L2, g', cap', w3, Lib.hid hrun, L3, Z3, Lib.hid hN⟩)
              have HSN : Hid (f = (H.app (.cons k' n' ls' ks .nil)).app r') := Lib.hid (by rw [hf.out, Ft.app_assoc]; rfl)
              have HJ := Lib.hid hj.out
              clear hf hR hfa hf0 g0 g1 g2 g3 gz q0 q1 q2 q3 qz hls' hsl' hlv' hfs hbox hE hE2 hHl hQ HT c0 c1 c2
              go_wp2_with fail
              refine HC.out.mono ?_
              intro e w2 hP
              obtain ⟨x1, y1, x2, y2, rfl, L2, hlb2, L2a, g', cap2, w3, HRUN, L3, Z3, HN⟩ := HAP.out e w2 hP
              clear hP HC HAP
              go_wp2_with (at_builtin; refine wpList_append_run (by rfl) _ _ _ (by rfl) (by rfl) (by rfl) HRUN.out ?_)
              go_roundw
              case rel => exact ⟨j + 1, _, r', _, by go_num, HSN, Lib.hid (by rw [Ft.app_len, HJ.out]; rfl), Lib.hid HQ2.out.2, HN⟩
              case measure => simp [intOf]; omega
            | false =>
              rw [qS_no hE] at HC
              have HQN : Hid ((⟨k, n, ls, f⟩ : Tm).qok P Q = false) := Lib.hid (by
                unfold Tm.qok at hE ⊢
                show (lvOkB P Q ls && qOk P Q f) = false
                rw [hf.out, qOk_app]
                show (lvOkB P Q ls && (qOk P Q H && ((lvOkB P Q ls' && qOk P Q ks) && qOk P Q r'))) = false
                rw [show (lvOkB P Q ls' && qOk P Q ks) = false from hE]; simp)
              have HRZ : Hid (∀ (w2 : World) (ob : Obj), Below wr.heap.size wr w2 → ∀ w3, w3 = w2.alloc ob → (w3.cell? ⟨w.heap.size + 1, 0, none⟩ = some (.int .i64 0) ∧ w3.cell? ⟨w.heap.size + 1, 1, none⟩ = some (.int .i64 0) ∧ w3.cell? ⟨w.heap.size + 1, 2, none⟩ = some (.slice none 0 0) ∧ w3.cell? ⟨w.heap.size + 1, 3, none⟩ = some (.slice none 0 0) ∧ (∀ o, w3.frozen? ⟨w.heap.size + 1, o, none⟩ = false)) ∧ w.heap.size + 1 < w2.heap.size ∧ Hid (Below w.heap.size w w3)) := Lib.hid (by
                rintro w2 ob hb w3 rfl
                have hR1 := hR.out.2.1
                have hlt := lt_of_block hR1
                have hb3 := Below.step hb ((Below.refl w2.heap.size w2).alloc (Nat.le_refl _) ob) (Nat.le_refl _)
                have h3 := (hb3.block _ hlt).trans hR1
                exact ⟨⟨cell_at h3 0, cell_at h3 1, cell_at h3 2, cell_at h3 3, free_of h3⟩, Nat.lt_of_lt_of_le hlt hb.size, Lib.hid (Below.step hwr hb3 (Nat.le_refl _))⟩)
              clear hf hR hfa hf0 hls' hsl' hfs hbox g0 g1 g2 g3 gz q0 q1 q2 q3 qz c0 c1 c2 hE hlv'
              go_wp2_with fail
              refine HC.out.mono ?_
              rintro e w2 ⟨x1, y1, x2, y2, rfl, -, -, t2⟩
              go_upto_region 14 with fail
              obtain ⟨w3, hw3⟩ : ∃ w3, w3 = w2.alloc (.cells #[.int .i64 tZ.k, .int .i64 tZ.n, .slice x1 tZ.ls.len y1, .slice x2 tZ.ks.len y2] 30) := ⟨_, rfl⟩
              obtain ⟨⟨g0, g1, g2, g3, gz⟩, hlb, HB3⟩ := HRZ.out w2 (.cells #[.int .i64 tZ.k, .int .i64 tZ.n, .slice x1 tZ.ls.len y1, .slice x2 tZ.ks.len y2] 30) t2 w3 hw3
              have hlb3 : w.heap.size + 1 < w3.heap.size := by rw [hw3]; simp; omega
              rw [← hw3]
              clear t2 hw3 hlb
              go_wp2_with fail
              refine bodyPost_ret (v := .tuple #[.agg #[.int .i64 0, .int .i64 0, .slice none 0 0, .slice none 0 0], .bool false]) (by simp [results, Tryz.results70, go_sem, g0, g1, g2, g3]) rfl ?_
              rw [qS_no HQN.out]
              exact QsPostQ.no ((((HB3.out.setCell (by simp) _).setCell (by simp) _).setCell (by simp) _).setCell (by simp) _)
      | cons k' n' ks r' =>
        have hjn : j < ls.len := by rw [hf.out, Fo.app_len, hj.out]; simp [Fo.len]
        have hjl : (j : Int) < (ls.len : Int) := by omega
        obtain ⟨b, o, rfl, hbB, hf0⟩ := HLS.out.some (by omega)
        have hfa : FoIn w (fun b => b < B ∨ (Bl b = 0 ∧ b < Bh)) (.cons k' n' ks r') b (o + j * 3) := by
          have h1 := hf0
          rw [hf.out] at h1
          rw [← hj.out]
          exact FoIn.behind3 G _ b o h1
        obtain ⟨e0, e1, ⟨a', cap', e2, hsl'⟩, _⟩ := (hfa.belowQ hwr hB _ _ _ hbB).first
        have hfs : ls.size = G.size + (ks.size + r'.size + 1) := by rw [hf.out, Fo.app_size]; rfl
        have hBr : (B ≤ wr.heap.size ∧ Bh ≤ wr.heap.size) := leQ hB hwr.size
        have HC : Hid (Calls Tryz.prog 90 #[.agg #[.int .i64 k', .int .i64 n', .slice a' ks.len cap'], .slice ap P.len cp, .slice aq Q.len cq] wr (SuPostBQ B Bl Bh (subT P Q k' n' ks) (subE P Q k' n' ks) wr)) :=
          Lib.hid (r5Sub_offQ P Q k' n' ks a' ap aq cap' cp cq B Bl Bh wr hsl' (HSP.out.belowQ hwr hB) (HSQ.out.belowQ hwr hB) hBr)
        by_cases hE : subE P Q k' n' ks = 0
        · have hT : subT P Q k' n' ks = sb1 P Q k' n' (sbF P Q ks) := by unfold subT; rw [if_pos hE]
          have HAP : Hid (∀ (e : Ending) (w2 : World), SuPostBQ B Bl Bh (subT P Q k' n' ks) (subE P Q k' n' ks) wr e w2 → ∃ (k2 n2 : Int) (F2 : Fo) (x2 : Option Addr) (c2 : Nat), e = .returned (.tuple #[.agg #[.int .i64 k2, .int .i64 n2, .slice x2 F2.len c2], .int .i64 0]) ∧
              (w2.alloc (.cells #[.int .i64 k2, .int .i64 n2, .slice x2 F2.len c2] 45)).cell? ⟨w.heap.size + 1 + 1, 2, none⟩ = some v ∧ w.heap.size + 1 + 1 < w2.heap.size ∧ ((w2.alloc (.cells #[.int .i64 k2, .int .i64 n2, .slice x2 F2.len c2] 45)).alloc (.cells #[.int .i64 k2, .int .i64 n2, .slice x2 F2.len c2] 45)).cell? ⟨w.heap.size + 1 + 1, 2, none⟩ = some v ∧
              ∃ g' cap' w3, Hid ((Builtin.append_ #[27, 27] 27 #[v, .slice (some ⟨w2.heap.size + 1, 0, none⟩) 1 1]).run Tryz.prog ((w2.alloc (.cells #[.int .i64 k2, .int .i64 n2, .slice x2 F2.len c2] 45)).alloc (.cells #[.int .i64 k2, .int .i64 n2, .slice x2 F2.len c2] 45)) = .ok (.slice (some ⟨g', 0, none⟩) (j + 1) cap') w3) ∧
                w3.cell? ⟨w.heap.size + 1 + 1, 2, none⟩ = some v ∧ (∀ o, w3.frozen? ⟨w.heap.size + 1 + 1, o, none⟩ = false) ∧
                Hid (L'.app (.cons k2 n2 F2 .nil) = sbF P Q (G.app (.cons k' n' ks .nil)) ∧ (L'.app (.cons k2 n2 F2 .nil)).len = j + 1 ∧ lvOkB P Q (G.app (.cons k' n' ks .nil)) = true) ∧
                Hid (TcRQ w (.cells #[.int .i64 k, .int .i64 n, .slice (some ⟨b, o, none⟩) ls.len lc, .slice ka f.len kc] 30) (w.heap.size + 1 + 1) B Bl Bh k n (L'.app (.cons k2 n2 F2 .nil)) (.slice (some ⟨g', 0, none⟩) (j + 1) cap') (w3.setCell ⟨w.heap.size + 1 + 1, 2, none⟩ (.slice (some ⟨g', 0, none⟩) (j + 1) cap')))) := Lib.hid (by
            rintro e w2 ⟨k2, n2, F2, x2, c2, hT2, rfl, t1, t2⟩
            rw [hE]
            rw [hT] at hT2
            have hbx : Below w2.heap.size w2 (w2.alloc (.cells #[.int .i64 k2, .int .i64 n2, .slice x2 F2.len c2] 45)) := (Below.refl _ _).alloc (Nat.le_refl _) _
            have hG1 : L'.len ≤ 1000 := by rw [hL.out.2.1]; have := Fo.len_le_size ls; omega
            have t3 : SlIn (w2.alloc (.cells #[.int .i64 k2, .int .i64 n2, .slice x2 F2.len c2] 45)) (fun b => ((b < B ∨ (Bl b = 0 ∧ b < Bh)) ∨ wr.heap.size ≤ b) ∧ b < (w2.alloc (.cells #[.int .i64 k2, .int .i64 n2, .slice x2 F2.len c2] 45)).heap.size) F2 x2 c2 :=
              (t1.keep (fun b hb => hbx.block b hb.2)).weak (fun b hb => ⟨hb.1, by simp; omega⟩)
            obtain ⟨L2, hlb2, g', cap', w3, hrun, L3, Z3, hN⟩ := TcRQ.next (k' := k2) (n' := n2) hR.out hG1 t3 (Below.step t2 hbx (Nat.le_refl _))
            rw [hL.out.2.1] at hrun hN
            simp only [World.size_alloc] at hrun
            have hob2 := Nat.lt_of_lt_of_le hob t2.size
            refine ⟨k2, n2, F2, x2, c2, rfl, L2, hob2, (World.cell?_of_block (w := w2.alloc (.cells #[.int .i64 k2, .int .i64 n2, .slice x2 F2.len c2] 45)) (a := ⟨w.heap.size + 1 + 1, 2, none⟩) (heap_old _ _ hlb2)).trans L2, g', cap', w3, Lib.hid hrun, L3, Z3, Lib.hid ⟨?_, ?_, ?_⟩, Lib.hid hN⟩
            · rw [sbF_app, hL.out.1]
              show _ = (sbF P Q G).app ((sb1 P Q k' n' (sbF P Q ks)).app .nil)
              rw [hT2, foNil3]
            · rw [Fo.app_len, hL.out.2.1]; rfl
            · rw [lvOk_app, hL.out.2.2]
              simp [lvOkB, hE])
          have HSN : Hid (ls = (G.app (.cons k' n' ks .nil)).app r') := Lib.hid (by rw [hf.out, foAss3]; rfl)
          have HJ := Lib.hid hj.out
          clear hf hR hfa hf0 qz hsl' hfs hbox hE hT c0 c1 c3
          go_wp2_with fail
          refine HC.out.mono ?_
          intro e w2 hP
          obtain ⟨k2, n2, F2, x2, c2', rfl, L2, hlb2, L2a, g', cap2, w3, HRUN, L3, Z3, HL3, HN⟩ := HAP.out e w2 hP
          clear hP HC HAP
          go_wp2_with (at_builtin; refine wpList_append_run (by rfl) _ _ _ (by rfl) (by rfl) (by rfl) HRUN.out ?_)
          go_roundw
          case rel => exact ⟨j + 1, _, r', _, _, by go_num, HSN, Lib.hid (by rw [Fo.app_len, HJ.out]; rfl), HL3, HN⟩
          case measure => simp [intOf]; omega
        · have HQN : Hid ((⟨k, n, ls, f⟩ : Tm).qok P Q = false) := Lib.hid (by
            unfold Tm.qok
            show (lvOkB P Q ls && _) = false
            rw [hf.out, lvOk_app]
            simp [lvOkB, hE])
          have HRZ : Hid (∀ (w2 : World) (ob : Obj), Below wr.heap.size wr w2 → ∀ w3, w3 = w2.alloc ob → (w3.cell? ⟨w.heap.size + 1, 0, none⟩ = some (.int .i64 0) ∧ w3.cell? ⟨w.heap.size + 1, 1, none⟩ = some (.int .i64 0) ∧ w3.cell? ⟨w.heap.size + 1, 2, none⟩ = some (.slice none 0 0) ∧ w3.cell? ⟨w.heap.size + 1, 3, none⟩ = some (.slice none 0 0) ∧ (∀ o, w3.frozen? ⟨w.heap.size + 1, o, none⟩ = false)) ∧ w.heap.size + 1 < w2.heap.size ∧ Hid (Below w.heap.size w w3)) := Lib.hid (by
            rintro w2 ob hb w3 rfl
            have hR1 := hR.out.2.1
            have hlt := lt_of_block hR1
            have hb3 := Below.step hb ((Below.refl w2.heap.size w2).alloc (Nat.le_refl _) ob) (Nat.le_refl _)
            have h3 := (hb3.block _ hlt).trans hR1
            exact ⟨⟨cell_at h3 0, cell_at h3 1, cell_at h3 2, cell_at h3 3, free_of h3⟩, Nat.lt_of_lt_of_le hlt hb.size, Lib.hid (Below.step hwr hb3 (Nat.le_refl _))⟩)
          generalize subE P Q k' n' ks = E at HC hE
          generalize subT P Q k' n' ks = T2 at HC
          have hE1 : (E == 0) = false := beq_eq_false_iff_ne.2 hE
          clear hf hR hfa hf0 hsl' hfs hbox c0 c1 c3
          go_wp2_with fail
          refine HC.out.mono ?_
          rintro e w2 ⟨k2, n2, F2, x2, c2', -, rfl, -, t2⟩
          go_upto_region 7 with fail
          obtain ⟨w3, hw3⟩ : ∃ w3, w3 = w2.alloc (.cells #[.int .i64 k2, .int .i64 n2, .slice x2 F2.len c2'] 45) := ⟨_, rfl⟩
          obtain ⟨⟨g0, g1, g2, g3, gz⟩, hlb, HB3⟩ := HRZ.out w2 (.cells #[.int .i64 k2, .int .i64 n2, .slice x2 F2.len c2'] 45) t2 w3 hw3
          have hlb3 : w.heap.size + 1 < w3.heap.size := by rw [hw3]; simp; omega
          rw [← hw3]
          clear t2 hw3 hlb
          go_wp2_with fail
          refine bodyPost_ret (v := .tuple #[.agg #[.int .i64 0, .int .i64 0, .slice none 0 0, .slice none 0 0], .bool false]) (by simp [results, Tryz.results70, go_sem, g0, g1, g2, g3]) rfl ?_
          rw [qS_no HQN.out]
          exact QsPostQ.no ((((HB3.out.setCell (by simp) _).setCell (by simp) _).setCell (by simp) _).setCell (by simp) _)
end Go.Proofs.YtnfhpombnbpdcaaGreat
namespace Go.Proofs.YtnfhpombnbpdcaaGreat
open Go.RowKit
def QaPostQ (B : Nat) (Bl : Nat → Nat) (Bh : Nat) (A : Tm × Int) (w : World) (e : Ending) (w' : World) : Prop :=
  ∃ (la : Option Addr) (lc : Nat) (x : Option Addr) (c : Nat), e = .returned (.tuple #[.agg #[.int .i64 A.1.k, .int .i64 A.1.n, .slice la A.1.ls.len lc, .slice x A.1.ks.len c], .int .i64 A.2]) ∧ SlIn w' (fun b => ((b < B ∨ (Bl b = 0 ∧ b < Bh)) ∨ w.heap.size ≤ b) ∧ b < w'.heap.size) A.1.ls la lc ∧ TlIn w' (fun b => ((b < B ∨ (Bl b = 0 ∧ b < Bh)) ∨ w.heap.size ≤ b) ∧ b < w'.heap.size) A.1.ks x c ∧ Below w.heap.size w w'
theorem QaPostQ.no {B : Nat} {Bl : Nat → Nat} {Bh : Nat} {E : Int} {w w' : World} (h : Below w.heap.size w w') : QaPostQ B Bl Bh (tZ, E) w (.returned (.tuple #[.agg #[.int .i64 0, .int .i64 0, .slice none 0 0, .slice none 0 0], .int .i64 E])) w' := ⟨none, 0, none, 0, rfl, SlIn.none _ _, TlIn.none _ _, h⟩
set_option maxRecDepth 100000 in
set_option maxHeartbeats 8000000 in
theorem r15Sub_anyQ (P Q : Fo) (T : Tm) (la ka ap aq : Option Addr) (lc kc cp cq B : Nat) (Bl : Nat → Nat) (Bh : Nat) (w : World) (hls : SlIn w (fun b => b < B ∨ (Bl b = 0 ∧ b < Bh)) T.ls la lc) (hsl : TlIn w (fun b => b < B ∨ (Bl b = 0 ∧ b < Bh)) T.ks ka kc) (hsp : SlIn w (fun b => b < B ∨ (Bl b = 0 ∧ b < Bh)) P ap cp) (hsq : SlIn w (fun b => b < B ∨ (Bl b = 0 ∧ b < Bh)) Q aq cq) (hB : (B ≤ w.heap.size ∧ Bh ≤ w.heap.size)) :
    Calls Tryz.prog 48 #[.agg #[.int .i64 T.k, .int .i64 T.n, .slice la T.ls.len lc, .slice ka T.ks.len kc], .slice ap P.len cp, .slice aq Q.len cq] w (QaPostQ B Bl Bh (qA P Q T) w) := by
  have hb0 : Below (w.heap.size + 1 + 1) (TuW w T.k T.n la ka T.ls.len lc T.ks.len kc) (TuW w T.k T.n la ka T.ls.len lc T.ks.len kc) := Below.refl _ _
  have hlp := hsp.len
  have hlq := hsq.len
  have HL : Hid (∀ W, Below (w.heap.size + 1 + 1) (TuW w T.k T.n la ka T.ls.len lc T.ks.len kc) W → Calls Tryz.prog 30 #[.agg #[.int .i64 T.k, .int .i64 T.n, .slice la T.ls.len lc, .slice ka T.ks.len kc]] W fun e w' => e = .returned (.bool T.sh) ∧ Below W.heap.size W w') := Lib.hid (fun W h =>
    r13Shape_any T.k T.n T.ls T.ks la ka lc kc W.heap.size W ((hls.belowQ (tuW_at h).2.2.1 hB).allQ (leQ hB (tuW_at h).2.2.1.size)) ((hsl.belowQ (tuW_at h).2.2.1 hB).allQ (leQ hB (tuW_at h).2.2.1.size)) (Nat.le_refl _))
  have HP : Hid (∀ W, Below (w.heap.size + 1 + 1) (TuW w T.k T.n la ka T.ls.len lc T.ks.len kc) W → Calls Tryz.prog 69 #[.slice ap P.len cp] W fun e w' => e = .returned (.bool (allR P)) ∧ Below W.heap.size W w') := Lib.hid (fun W h =>
    r15right_any P ap cp W.heap.size W ((hsp.belowQ (tuW_at h).2.2.1 hB).allQ (leQ hB (tuW_at h).2.2.1.size)) (Nat.le_refl _))
  have HQ : Hid (∀ W, Below (w.heap.size + 1 + 1) (TuW w T.k T.n la ka T.ls.len lc T.ks.len kc) W → Calls Tryz.prog 69 #[.slice aq Q.len cq] W fun e w' => e = .returned (.bool (allR Q)) ∧ Below W.heap.size W w') := Lib.hid (fun W h =>
    r15right_any Q aq cq W.heap.size W ((hsq.belowQ (tuW_at h).2.2.1 hB).allQ (leQ hB (tuW_at h).2.2.1.size)) (Nat.le_refl _))
  have HNO : Hid (okQ P Q T.sh = false → ∀ W, Below (w.heap.size + 1 + 1) (TuW w T.k T.n la ka T.ls.len lc T.ks.len kc) W → QaPostQ B Bl Bh (qA P Q T) w (.returned (.tuple #[.agg #[.int .i64 0, .int .i64 0, .slice none 0 0, .slice none 0 0], .int .i64 1])) ((((W.setCell ⟨w.heap.size + 1, 0, none⟩ (.int .i64 0)).setCell ⟨w.heap.size + 1, 1, none⟩ (.int .i64 0)).setCell ⟨w.heap.size + 1, 2, none⟩ (.slice none 0 0)).setCell ⟨w.heap.size + 1, 3, none⟩ (.slice none 0 0))) := Lib.hid (fun h W hb => by
    rw [qA_1 h]
    exact QaPostQ.no (tuW_low hb _ _ _ _))
  by_cases h1 : P.len ≤ 5
  · have d1 : decide ((5 : Int) < (P.len : Int)) = false := by simp; omega
    by_cases h2 : Q.len ≤ 10
    · have d2 : decide ((10 : Int) < (Q.len : Int)) = false := by simp; omega
      have HOK : Hid (okQ P Q T.sh = (T.sh && (allR P && allR Q))) := Lib.hid (by unfold okQ; rw [decide_eq_true h1, decide_eq_true h2]; rfl)
      have HSB : Hid (∀ (W : World), Below (w.heap.size + 1 + 1) (TuW w T.k T.n la ka T.ls.len lc T.ks.len kc) W → T.sh = true → Calls Tryz.prog 70 #[.agg #[.int .i64 T.k, .int .i64 T.n, .slice la T.ls.len lc, .slice ka T.ks.len kc], .slice ap P.len cp, .slice aq Q.len cq] W (QsPostQ B Bl Bh (qS P Q T) W)) := Lib.hid (fun W hb r1 => by
        obtain ⟨_, _, y5, y6⟩ := tuW_at hb
        obtain ⟨p1, p2, p3⟩ := sh_small9 r1
        exact r15sub_anyQ P Q ap aq cp cq B Bl Bh (T.ks.size + 1) T.ks (Nat.lt_succ_self _) p1 p2 T.k T.n T.ls la ka lc kc W p3 (hsp.belowQ y5 hB) (hsq.belowQ y5 hB) (hls.belowQ y5 hB) (hsl.belowQ y5 hB) (by omega))
      have HYES : Hid (okQ P Q T.sh = true → qA P Q T = if T.qok P Q = true then (T.q P Q, 0) else (tZ, 2)) := Lib.hid (qA_2)
      generalize hv : T.sh = v at HL HOK HSB HNO HYES
      generalize hvp : allR P = vp at HP HOK
      generalize hvq : allR Q = vq at HQ HOK
      clear hv hvp hvq hsl hls hsp hsq
      have HB0 := Lib.hid hb0
      clear hb0
      go_enter Tryz.func48, Tryz.ntmps48
      go_wp2_with fail
      refine (HL.out _ HB0.out).mono ?_
      rintro e w1 ⟨rfl, hb1⟩
      have B1 := Lib.hid (tuW_step HB0.out hb1)
      clear hb1
      obtain ⟨⟨x1, x2, x3, x4⟩, ⟨z1, z2, z3, z4⟩, zf, zl⟩ := tuW_cells B1.out
      cases v with
      | false =>
        have HE := Lib.hid (HNO.out HOK.out w1 B1.out)
        go_wp2_with fail
        refine bodyPost_ret (v := .tuple #[.agg #[.int .i64 0, .int .i64 0, .slice none 0 0, .slice none 0 0], .int .i64 1]) (by simp [results, Tryz.results48, go_sem, z1, z2, z3, z4]) rfl ?_
        exact HE.out
      | true =>
        go_wp2_with fail
        refine (HP.out _ B1.out).mono ?_
        rintro e w2 ⟨rfl, hb2⟩
        have B2 := Lib.hid (tuW_step B1.out hb2)
        clear hb2 x1 x2 x3 x4 z1 z2 z3 z4 zf zl
        obtain ⟨⟨x1, x2, x3, x4⟩, ⟨z1, z2, z3, z4⟩, zf, zl⟩ := tuW_cells B2.out
        cases vp with
        | false =>
          have HE := Lib.hid (HNO.out HOK.out w2 B2.out)
          go_wp2_with fail
          refine bodyPost_ret (v := .tuple #[.agg #[.int .i64 0, .int .i64 0, .slice none 0 0, .slice none 0 0], .int .i64 1]) (by simp [results, Tryz.results48, go_sem, z1, z2, z3, z4]) rfl ?_
          exact HE.out
        | true =>
          go_wp2_with fail
          refine (HQ.out _ B2.out).mono ?_
          rintro e w3 ⟨rfl, hb3⟩
          have B3 := Lib.hid (tuW_step B2.out hb3)
          clear hb3 x1 x2 x3 x4 z1 z2 z3 z4 zf zl
          obtain ⟨⟨x1, x2, x3, x4⟩, ⟨z1, z2, z3, z4⟩, zf, zl⟩ := tuW_cells B3.out
          cases vq with
          | false =>
            have HE := Lib.hid (HNO.out HOK.out w3 B3.out)
            go_wp2_with fail
            refine bodyPost_ret (v := .tuple #[.agg #[.int .i64 0, .int .i64 0, .slice none 0 0, .slice none 0 0], .int .i64 1]) (by simp [results, Tryz.results48, go_sem, z1, z2, z3, z4]) rfl ?_
            exact HE.out
          | true =>
            have HY := Lib.hid (HYES.out HOK.out)
            clear HYES HNO
            go_wp2_with fail
            cases hq : T.qok P Q with
            | false =>
              have HY2 : Hid (qA P Q T = (tZ, 2)) := Lib.hid (by rw [HY.out, if_neg (by rw [hq]; simp)])
              have HS2 := Lib.hid (HSB.out w3 B3.out trivial)
              rw [qS_no hq] at HS2
              clear HSB HY hq
              refine HS2.out.mono ?_
              rintro e w4 ⟨y1, m1, y2, m2, rfl, -, -, hb4⟩
              go_upto_region 5 with fail
              obtain ⟨w5, hw5⟩ : ∃ w5, w5 = w4.alloc (.cells #[.int .i64 tZ.k, .int .i64 tZ.n, .slice y1 tZ.ls.len m1, .slice y2 tZ.ks.len m2] 30) := ⟨_, rfl⟩
              have B5 : Hid (Below (w.heap.size + 1 + 1) (TuW w T.k T.n la ka T.ls.len lc T.ks.len kc) w5) := Lib.hid (by rw [hw5]; exact tuW_step (tuW_step B3.out hb4) ((Below.refl _ _).alloc (Nat.le_refl _) _))
              rw [← hw5]
              clear hb4 hw5 x1 x2 x3 x4 z1 z2 z3 z4 zf zl
              obtain ⟨⟨x1, x2, x3, x4⟩, ⟨z1, z2, z3, z4⟩, zf, zl⟩ := tuW_cells B5.out
              have HE := Lib.hid (QaPostQ.no (B := B) (Bl := Bl) (Bh := Bh) (E := 2) (tuW_low B5.out (.int .i64 0) (.int .i64 0) (.slice none 0 0) (.slice none 0 0)))
              go_wp2_with fail
              refine bodyPost_ret (v := .tuple #[.agg #[.int .i64 0, .int .i64 0, .slice none 0 0, .slice none 0 0], .int .i64 2]) (by simp [results, Tryz.results48, go_sem, z1, z2, z3, z4]) rfl ?_
              rw [HY2.out]
              exact HE.out
            | true =>
              have HY2 : Hid (qA P Q T = (T.q P Q, 0)) := Lib.hid (by rw [HY.out, if_pos hq])
              have HS2 := Lib.hid (HSB.out w3 B3.out trivial)
              rw [qS_yes hq] at HS2
              clear HSB HY hq
              generalize T.q P Q = U at HS2 HY2
              refine HS2.out.mono ?_
              rintro e w4 ⟨y1, m1, y2, m2, rfl, t0, t1, hb4⟩
              go_upto_region 6 with fail
              obtain ⟨w5, hw5⟩ : ∃ w5, w5 = w4.alloc (.cells #[.int .i64 U.k, .int .i64 U.n, .slice y1 U.ls.len m1, .slice y2 U.ks.len m2] 30) := ⟨_, rfl⟩
              have B5 : Hid (Below (w.heap.size + 1 + 1) (TuW w T.k T.n la ka T.ls.len lc T.ks.len kc) w5) := Lib.hid (by rw [hw5]; exact tuW_step (tuW_step B3.out hb4) ((Below.refl _ _).alloc (Nat.le_refl _) _))
              have hn := heap_new w4 (.cells #[.int .i64 U.k, .int .i64 U.n, .slice y1 U.ls.len m1, .slice y2 U.ks.len m2] 30)
              have hbx : Below w4.heap.size w4 w5 := by rw [hw5]; exact (Below.refl _ _).alloc (Nat.le_refl _) _
              have hz3 := (tuW_at B3.out).2.2.2
              have hz4 := hb4.size
              rw [← hw5] at hn ⊢
              have hg := set4_only (w := w5) (w.heap.size + 1) (.int .i64 U.k) (.int .i64 U.n) (.slice y1 U.ls.len m1) (.slice y2 U.ks.len m2)
              have hgz := hg.size
              have HE : Hid (QaPostQ B Bl Bh (U, 0) w (.returned (.tuple #[.agg #[.int .i64 U.k, .int .i64 U.n, .slice y1 U.ls.len m1, .slice y2 U.ks.len m2], .int .i64 0])) ((((w5.setCell ⟨w.heap.size + 1, 0, none⟩ (.int .i64 U.k)).setCell ⟨w.heap.size + 1, 1, none⟩ (.int .i64 U.n)).setCell ⟨w.heap.size + 1, 2, none⟩ (.slice y1 U.ls.len m1)).setCell ⟨w.heap.size + 1, 3, none⟩ (.slice y2 U.ks.len m2))) := Lib.hid
                ⟨y1, m1, y2, m2, rfl, ((t0.keep (fun b hb => hbx.block b hb.2)).keep (fun b hb => Only.block hg (by have := hbx.size; omega) (by omega))).weak (fun b hb => by have := hbx.size; omega),
                  (t1.turn (fun b hb => hbx.block b hb.2) (fun b hb => hb)).turn (fun b hb => Only.block hg (by have := hbx.size; omega) (by omega)) (fun b hb => by have := hbx.size; omega), tuW_low B5.out _ _ _ _⟩
              obtain ⟨n0, n1, n2, n3⟩ := cells4 hn
              clear hb4 hw5 x1 x2 x3 x4 z1 z2 z3 z4 zf zl t0 t1 hg hgz hbx hn hz3 hz4
              obtain ⟨⟨x1, x2, x3, x4⟩, ⟨z1, z2, z3, z4⟩, zf, zl⟩ := tuW_cells B5.out
              go_wp2_with fail
              refine bodyPost_ret (v := .tuple #[.agg #[.int .i64 U.k, .int .i64 U.n, .slice y1 U.ls.len m1, .slice y2 U.ks.len m2], .int .i64 0]) (by simp [results, Tryz.results48, go_sem, z1, z2, z3, z4]) rfl ?_
              rw [HY2.out]
              exact HE.out
    · have d2 : decide ((10 : Int) < (Q.len : Int)) = true := by simp; omega
      have hok : okQ P Q T.sh = false := by unfold okQ; rw [decide_eq_false h2]; simp
      have HE := Lib.hid (HNO.out hok)
      generalize T.sh = v at HL
      have HB0 := Lib.hid hb0
      clear hls hsl hsp hsq hb0 HNO
      go_enter Tryz.func48, Tryz.ntmps48
      go_wp2_with fail
      refine (HL.out _ HB0.out).mono ?_
      rintro e w1 ⟨rfl, hb1⟩
      have B1 := Lib.hid (tuW_step HB0.out hb1)
      clear hb1
      obtain ⟨⟨x1, x2, x3, x4⟩, ⟨z1, z2, z3, z4⟩, zf, zl⟩ := tuW_cells B1.out
      cases v
      all_goals
        go_wp2_with fail
        refine bodyPost_ret (v := .tuple #[.agg #[.int .i64 0, .int .i64 0, .slice none 0 0, .slice none 0 0], .int .i64 1]) (by simp [results, Tryz.results48, go_sem, z1, z2, z3, z4]) rfl ?_
        exact HE.out w1 B1.out
  · have d1 : decide ((5 : Int) < (P.len : Int)) = true := by simp; omega
    have hok : okQ P Q T.sh = false := by unfold okQ; rw [decide_eq_false h1]; simp
    have HE := Lib.hid (HNO.out hok)
    generalize T.sh = v at HL
    have HB0 := Lib.hid hb0
    clear hls hsl hsp hsq hb0 HNO
    go_enter Tryz.func48, Tryz.ntmps48
    go_wp2_with fail
    refine (HL.out _ HB0.out).mono ?_
    rintro e w1 ⟨rfl, hb1⟩
    have B1 := Lib.hid (tuW_step HB0.out hb1)
    clear hb1
    obtain ⟨⟨x1, x2, x3, x4⟩, ⟨z1, z2, z3, z4⟩, zf, zl⟩ := tuW_cells B1.out
    cases v
    all_goals
      go_wp2_with fail
      refine bodyPost_ret (v := .tuple #[.agg #[.int .i64 0, .int .i64 0, .slice none 0 0, .slice none 0 0], .int .i64 1]) (by simp [results, Tryz.results48, go_sem, z1, z2, z3, z4]) rfl ?_
      exact HE.out w1 B1.out
end Go.Proofs.YtnfhpombnbpdcaaGreat
namespace Go.Proofs.YtnfhpombnbpdcaaGreat
open Go.RowKit
def bq (Bl : Nat → Nat) (Bh lo b : Nat) : Nat := if (Bl b = 0 ∧ b < Bh) ∨ lo ≤ b then 0 else 1
theorem bq_0 {Bl : Nat → Nat} {Bh lo b : Nat} : bq Bl Bh lo b = 0 ↔ (Bl b = 0 ∧ b < Bh) ∨ lo ≤ b := by
  unfold bq
  by_cases h : (Bl b = 0 ∧ b < Bh) ∨ lo ≤ b
  · rw [if_pos h]; exact ⟨fun _ => h, fun _ => rfl⟩
  · rw [if_neg h]; exact ⟨fun e => by omega, fun e => absurd e h⟩
def HdPost (M : Nat) (ea : Option Addr) (len cap B : Nat) (Bl : Nat → Nat) (Bh : Nat) (H : Hr) (w : World) (e : Ending) (w' : World) : Prop := w.grownBy w' (some M) ∧ match H with
  | .no er => er ≠ 0 ∧ ∃ (k n : Int) (la : Option Addr) (l lc : Nat) (ka : Option Addr) (kl kc fuel : Nat), e = .returned (.agg #[.int .i64 k, .int .i64 n, .slice la l lc, .slice ka kl kc]) ∧ McAt w' M ea len cap fuel er
  | .ok A m => ∃ (la : Option Addr) (lc : Nat) (ka : Option Addr) (kc : Nat), e = .returned (.agg #[.int .i64 A.k, .int .i64 A.n, .slice la A.ls.len lc, .slice ka A.ks.len kc]) ∧ McAt w' M ea len cap m 0 ∧
      SlIn w' (fun b => ((b < B ∨ (Bl b = 0 ∧ b < Bh)) ∨ w.heap.size ≤ b) ∧ b < w'.heap.size) A.ls la lc ∧ TlIn w' (fun b => ((b < B ∨ (Bl b = 0 ∧ b < Bh)) ∨ w.heap.size ≤ b) ∧ b < w'.heap.size) A.ks ka kc
def HdOk (w : World) (M B : Nat) (Bl : Nat → Nat) (Bh : Nat) : Prop := B ≤ M ∧ M < w.heap.size ∧ Bh ≤ w.heap.size ∧ ¬ (Bl M = 0 ∧ M < Bh)
def HdR (w : World) (M : Nat) (ea : Option Addr) (len cap B : Nat) (Bl : Nat → Nat) (Bh : Nat) (T : Tm) (la : Option Addr) (lc : Nat) (ka : Option Addr) (kc m er : Nat) (wr : World) : Prop :=
  wr.heap[w.heap.size]? = some (.cells #[.int .i64 T.k, .int .i64 T.n, .slice la T.ls.len lc, .slice ka T.ks.len kc] 30 (0, 0)) ∧ wr.heap[w.heap.size + 1]? = some (.cells #[.int .i64 0, .int .i64 0, .slice none 0 0, .slice none 0 0] 30 (0, 0)) ∧ McAt wr M ea len cap m er ∧
  SlIn wr (fun b => b < B ∨ (bq Bl Bh (w.heap.size + 1 + 1) b = 0 ∧ b < wr.heap.size)) T.ls la lc ∧ TlIn wr (fun b => b < B ∨ (bq Bl Bh (w.heap.size + 1 + 1) b = 0 ∧ b < wr.heap.size)) T.ks ka kc ∧ w.grownBy wr (some M)
theorem HdR.size {w : World} {M : Nat} {ea : Option Addr} {len cap B : Nat} {Bl : Nat → Nat} {Bh : Nat} {T : Tm} {la : Option Addr} {lc : Nat} {ka : Option Addr} {kc m er : Nat} {wr : World} (h : HdR w M ea len cap B Bl Bh T la lc ka kc m er wr) : w.heap.size + 1 + 1 ≤ wr.heap.size := lt_of_block h.2.1
theorem HdR.start {w : World} {M : Nat} {ea : Option Addr} {len cap B : Nat} {Bl : Nat → Nat} {Bh : Nat} {T : Tm} {la : Option Addr} {lc : Nat} {ka : Option Addr} {kc m : Nat} (hok : HdOk w M B Bl Bh) (hm : McAt w M ea len cap m 0) (hl : SlIn w (fun b => b < B ∨ (Bl b = 0 ∧ b < Bh)) T.ls la lc) (hs : TlIn w (fun b => b < B ∨ (Bl b = 0 ∧ b < Bh)) T.ks ka kc) :
    HdR w M ea len cap B Bl Bh T la lc ka kc m 0 ((w.alloc (.cells #[.int .i64 T.k, .int .i64 T.n, .slice la T.ls.len lc, .slice ka T.ks.len kc] 30)).alloc (.cells #[.int .i64 0, .int .i64 0, .slice none 0 0, .slice none 0 0] 30)) := by
  obtain ⟨h1, h2, h3, h4⟩ := hok
  have hb : Below w.heap.size w ((w.alloc (.cells #[.int .i64 T.k, .int .i64 T.n, .slice la T.ls.len lc, .slice ka T.ks.len kc] 30)).alloc (.cells #[.int .i64 0, .int .i64 0, .slice none 0 0, .slice none 0 0] 30)) := ((Below.refl _ _).alloc (Nat.le_refl _) _).alloc (by simp) _
  have hP : ∀ b, (b < B ∨ (Bl b = 0 ∧ b < Bh)) → b < w.heap.size := fun b hx => by omega
  have hQ : ∀ b, (b < B ∨ (Bl b = 0 ∧ b < Bh)) → b < B ∨ (bq Bl Bh (w.heap.size + 1 + 1) b = 0 ∧ b < ((w.alloc (.cells #[.int .i64 T.k, .int .i64 T.n, .slice la T.ls.len lc, .slice ka T.ks.len kc] 30)).alloc (.cells #[.int .i64 0, .int .i64 0, .slice none 0 0, .slice none 0 0] 30)).heap.size) := fun b hx => by
    have := hP b hx
    rcases hx with hx | hx
    · exact .inl hx
    · exact .inr ⟨bq_0.2 (.inl hx), by simp; omega⟩
  exact ⟨(heap_old _ _ (by simp)).trans (heap_new _ _), heap_second _ _ _, hm.later hb, (hl.keep (fun b hx => hb.block b (hP b hx))).weak hQ, hs.turn (fun b hx => hb.block b (hP b hx)) hQ, ⟨hb.os, hb.tape, hb.output, hb.size, fun b hx _ => hb.block b hx⟩⟩
theorem hd_off {w : World} {M B : Nat} {Bl : Nat → Nat} {Bh n b : Nat} (hok : HdOk w M B Bl Bh) (h : b < B ∨ (bq Bl Bh (w.heap.size + 1 + 1) b = 0 ∧ b < n)) : b ≠ M ∧ b ≠ w.heap.size ∧ b ≠ w.heap.size + 1 := by
  obtain ⟨h1, h2, h3, h4⟩ := hok
  rcases h with h | ⟨h, _⟩
  · omega
  · rcases bq_0.1 h with h | h
    · refine ⟨fun e => h4 (by rw [← e]; exact h), by omega, by omega⟩
    · omega
theorem HdR.turn {w : World} {M : Nat} {ea : Option Addr} {len cap B : Nat} {Bl : Nat → Nat} {Bh : Nat} {T : Tm} {la : Option Addr} {lc : Nat} {ka : Option Addr} {kc m er m' er' : Nat} {wr w2 : World} (h : HdR w M ea len cap B Bl Bh T la lc ka kc m er wr) (hok : HdOk w M B Bl Bh) (hg : wr.grownBy w2 (some M)) (hm : McAt w2 M ea len cap m' er') : HdR w M ea len cap B Bl Bh T la lc ka kc m' er' w2 := by
  have hz := h.size
  obtain ⟨h1, h2, h3, h4, h5, h6⟩ := h
  have hB : B ≤ wr.heap.size := by obtain ⟨q1, q2, q3, q4⟩ := hok; omega
  have hP : ∀ b, (b < B ∨ (bq Bl Bh (w.heap.size + 1 + 1) b = 0 ∧ b < wr.heap.size)) → w2.heap[b]? = wr.heap[b]? := fun b hx => Only.block hg (by omega) (hd_off hok hx).1
  have hQ : ∀ b, (b < B ∨ (bq Bl Bh (w.heap.size + 1 + 1) b = 0 ∧ b < wr.heap.size)) → b < B ∨ (bq Bl Bh (w.heap.size + 1 + 1) b = 0 ∧ b < w2.heap.size) := fun b hx => by have := hg.size; omega
  have hM := hok.2.1
  exact ⟨(Only.block hg (by omega) (by omega)).trans h1, (Only.block hg (by omega) (by omega)).trans h2, hm, (h4.keep hP).weak hQ, h5.turn hP hQ, Only.after h6 hg⟩
theorem HdR.next {w : World} {M : Nat} {ea : Option Addr} {len cap B : Nat} {Bl : Nat → Nat} {Bh : Nat} {T : Tm} {la : Option Addr} {lc : Nat} {ka : Option Addr} {kc m er m' er' : Nat} {wr w2 w3 : World} {T' : Tm} {la' : Option Addr} {lc' : Nat} {ka' : Option Addr} {kc' : Nat} (h : HdR w M ea len cap B Bl Bh T la lc ka kc m er wr) (hok : HdOk w M B Bl Bh)
    (hb : Below wr.heap.size wr w2) (hl : SlIn w2 (fun b => ((b < B ∨ (bq Bl Bh (w.heap.size + 1 + 1) b = 0 ∧ b < wr.heap.size)) ∨ wr.heap.size ≤ b) ∧ b < w2.heap.size) T'.ls la' lc') (hs : TlIn w2 (fun b => ((b < B ∨ (bq Bl Bh (w.heap.size + 1 + 1) b = 0 ∧ b < wr.heap.size)) ∨ wr.heap.size ≤ b) ∧ b < w2.heap.size) T'.ks ka' kc')
    (hg : w2.grownBy w3 (some M)) (hm : McAt w3 M ea len cap m' er') :
    HdR w M ea len cap B Bl Bh T' la' lc' ka' kc' m' er' ((((w3.setCell ⟨w.heap.size, 0, none⟩ (.int .i64 T'.k)).setCell ⟨w.heap.size, 1, none⟩ (.int .i64 T'.n)).setCell ⟨w.heap.size, 2, none⟩ (.slice la' T'.ls.len lc')).setCell ⟨w.heap.size, 3, none⟩ (.slice ka' T'.ks.len kc')) := by
  have hz := h.size
  have hzb := hb.size
  have hzg := hg.size
  obtain ⟨h1, h2, h3, h4, h5, h6⟩ := h
  have hM := hok.2.1
  have hset := set4_only (w := w3) w.heap.size (.int .i64 T'.k) (.int .i64 T'.n) (.slice la' T'.ls.len lc') (.slice ka' T'.ks.len kc')
  have hzs := hset.size
  have e1 := (Only.block hg (by omega) (by omega)).trans ((hb.block w.heap.size (by omega)).trans h1)
  have e2 := (Only.block hset (by omega) (by omega)).trans ((Only.block hg (by omega) (by omega)).trans ((hb.block (w.heap.size + 1) (by omega)).trans h2))
  have hQ : ∀ b, ((b < B ∨ (bq Bl Bh (w.heap.size + 1 + 1) b = 0 ∧ b < wr.heap.size)) ∨ wr.heap.size ≤ b) ∧ b < w2.heap.size → b < B ∨ (bq Bl Bh (w.heap.size + 1 + 1) b = 0 ∧ b < w2.heap.size) := fun b hx => by
    obtain ⟨hx | hx, hx2⟩ := hx
    · omega
    · exact .inr ⟨bq_0.2 (.inr (by omega)), hx2⟩
  have hP : ∀ b, ((b < B ∨ (bq Bl Bh (w.heap.size + 1 + 1) b = 0 ∧ b < wr.heap.size)) ∨ wr.heap.size ≤ b) ∧ b < w2.heap.size → ((((w3.setCell ⟨w.heap.size, 0, none⟩ (.int .i64 T'.k)).setCell ⟨w.heap.size, 1, none⟩ (.int .i64 T'.n)).setCell ⟨w.heap.size, 2, none⟩ (.slice la' T'.ls.len lc')).setCell ⟨w.heap.size, 3, none⟩ (.slice ka' T'.ks.len kc')).heap[b]? = w2.heap[b]? := fun b hx => by
    obtain ⟨o1, o2, o3⟩ := hd_off hok (hQ b hx)
    exact (Only.block hset (by omega) o2).trans (Only.block hg hx.2 o1)
  have hQ2 : ∀ b, ((b < B ∨ (bq Bl Bh (w.heap.size + 1 + 1) b = 0 ∧ b < wr.heap.size)) ∨ wr.heap.size ≤ b) ∧ b < w2.heap.size → b < B ∨ (bq Bl Bh (w.heap.size + 1 + 1) b = 0 ∧ b < ((((w3.setCell ⟨w.heap.size, 0, none⟩ (.int .i64 T'.k)).setCell ⟨w.heap.size, 1, none⟩ (.int .i64 T'.n)).setCell ⟨w.heap.size, 2, none⟩ (.slice la' T'.ls.len lc')).setCell ⟨w.heap.size, 3, none⟩ (.slice ka' T'.ks.len kc')).heap.size) := fun b hx => by
    have := hQ b hx
    omega
  refine ⟨set4_at e1, e2, hm.only hset (by omega), (hl.keep hP).weak hQ2, hs.turn hP hQ2, ?_⟩
  exact ⟨hset.os.trans (hg.os.trans (hb.os.trans h6.os)), hset.tape.trans (hg.tape.trans (hb.tape.trans h6.tape)), hset.output.trans (hg.output.trans (hb.output.trans h6.output)), by have := h6.size; omega, fun b hx hn => (Only.block hset (by omega) (by omega)).trans ((hg.block b (by omega) hn).trans ((hb.block b (by omega)).trans (h6.block b hx hn)))⟩
theorem HdR.fin {w : World} {M : Nat} {ea : Option Addr} {len cap B : Nat} {Bl : Nat → Nat} {Bh : Nat} {T : Tm} {la : Option Addr} {lc : Nat} {ka : Option Addr} {kc m er : Nat} {wr w3 : World} {A : Tm} {la' : Option Addr} {lc' : Nat} {ka' : Option Addr} {kc' : Nat} (h : HdR w M ea len cap B Bl Bh T la lc ka kc m er wr) (hok : HdOk w M B Bl Bh)
    (hb : Below wr.heap.size wr w3) (hl : SlIn w3 (fun b => b < B ∨ (bq Bl Bh (w.heap.size + 1 + 1) b = 0 ∧ b < w3.heap.size)) A.ls la' lc') (hs : TlIn w3 (fun b => b < B ∨ (bq Bl Bh (w.heap.size + 1 + 1) b = 0 ∧ b < w3.heap.size)) A.ks ka' kc') (he : er = 0) :
    HdPost M ea len cap B Bl Bh (.ok A m) w (.returned (.agg #[.int .i64 A.k, .int .i64 A.n, .slice la' A.ls.len lc', .slice ka' A.ks.len kc'])) ((((w3.setCell ⟨w.heap.size + 1, 0, none⟩ (.int .i64 A.k)).setCell ⟨w.heap.size + 1, 1, none⟩ (.int .i64 A.n)).setCell ⟨w.heap.size + 1, 2, none⟩ (.slice la' A.ls.len lc')).setCell ⟨w.heap.size + 1, 3, none⟩ (.slice ka' A.ks.len kc')) := by
  subst he
  have hz := h.size
  have hzb := hb.size
  obtain ⟨h1, h2, h3, h4, h5, h6⟩ := h
  have hM := hok.2.1
  have hset := set4_only (w := w3) (w.heap.size + 1) (.int .i64 A.k) (.int .i64 A.n) (.slice la' A.ls.len lc') (.slice ka' A.ks.len kc')
  have hzs := hset.size
  have hBw : B ≤ w.heap.size := by have := hok.1; omega
  have hP : ∀ b, (b < B ∨ (bq Bl Bh (w.heap.size + 1 + 1) b = 0 ∧ b < w3.heap.size)) → ((((w3.setCell ⟨w.heap.size + 1, 0, none⟩ (.int .i64 A.k)).setCell ⟨w.heap.size + 1, 1, none⟩ (.int .i64 A.n)).setCell ⟨w.heap.size + 1, 2, none⟩ (.slice la' A.ls.len lc')).setCell ⟨w.heap.size + 1, 3, none⟩ (.slice ka' A.ks.len kc')).heap[b]? = w3.heap[b]? := fun b hx => Only.block hset (by omega) (hd_off hok hx).2.2
  have hQ : ∀ b, (b < B ∨ (bq Bl Bh (w.heap.size + 1 + 1) b = 0 ∧ b < w3.heap.size)) → ((b < B ∨ (Bl b = 0 ∧ b < Bh)) ∨ w.heap.size ≤ b) ∧ b < ((((w3.setCell ⟨w.heap.size + 1, 0, none⟩ (.int .i64 A.k)).setCell ⟨w.heap.size + 1, 1, none⟩ (.int .i64 A.n)).setCell ⟨w.heap.size + 1, 2, none⟩ (.slice la' A.ls.len lc')).setCell ⟨w.heap.size + 1, 3, none⟩ (.slice ka' A.ks.len kc')).heap.size := fun b hx => by
    rcases hx with hx | ⟨hx, hx2⟩
    · exact ⟨.inl (.inl hx), by omega⟩
    · rcases bq_0.1 hx with hx | hx
      · exact ⟨.inl (.inr hx), by omega⟩
      · exact ⟨.inr (by omega), by omega⟩
  refine ⟨?_, la', lc', ka', kc', rfl, (h3.later hb).only hset (by omega), (hl.keep hP).weak hQ, hs.turn hP hQ⟩
  exact ⟨hset.os.trans (hb.os.trans h6.os), hset.tape.trans (hb.tape.trans h6.tape), hset.output.trans (hb.output.trans h6.output), by have := h6.size; omega, fun b hx hn => (Only.block hset (by omega) (by omega)).trans ((hb.block b (by omega)).trans (h6.block b hx hn))⟩
theorem HdR.bad {w : World} {M : Nat} {ea : Option Addr} {len cap B : Nat} {Bl : Nat → Nat} {Bh : Nat} {T : Tm} {la : Option Addr} {lc : Nat} {ka : Option Addr} {kc m er : Nat} {wr w3 : World} (h : HdR w M ea len cap B Bl Bh T la lc ka kc m er wr) (hok : HdOk w M B Bl Bh) (hb : Below wr.heap.size wr w3) (he : er ≠ 0) (k n : Int) (la' : Option Addr) (l' lc' : Nat) (ka' : Option Addr) (kl' kc' : Nat) :
    HdPost M ea len cap B Bl Bh (.no er) w (.returned (.agg #[.int .i64 k, .int .i64 n, .slice la' l' lc', .slice ka' kl' kc'])) ((((w3.setCell ⟨w.heap.size + 1, 0, none⟩ (.int .i64 k)).setCell ⟨w.heap.size + 1, 1, none⟩ (.int .i64 n)).setCell ⟨w.heap.size + 1, 2, none⟩ (.slice la' l' lc')).setCell ⟨w.heap.size + 1, 3, none⟩ (.slice ka' kl' kc')) := by
  have hz := h.size
  have hzb := hb.size
  obtain ⟨h1, h2, h3, h4, h5, h6⟩ := h
  have hM := hok.2.1
  have hset := set4_only (w := w3) (w.heap.size + 1) (.int .i64 k) (.int .i64 n) (.slice la' l' lc') (.slice ka' kl' kc')
  have hzs := hset.size
  refine ⟨?_, he, k, n, la', l', lc', ka', kl', kc', m, rfl, (h3.later hb).only hset (by omega)⟩
  exact ⟨hset.os.trans (hb.os.trans h6.os), hset.tape.trans (hb.tape.trans h6.tape), hset.output.trans (hb.output.trans h6.output), by have := h6.size; omega, fun b hx hn => (Only.block hset (by omega) (by omega)).trans ((hb.block b (by omega)).trans (h6.block b hx hn))⟩
def mcMu (M : Nat) (w : World) : Nat := match w.cell? ⟨M, 1, none⟩, w.cell? ⟨M, 2, none⟩ with
  | some (.int _ f), some (.int _ e) => if e = 0 then f.toNat + 1 else 0
  | _, _ => 0
theorem mcMu_at {w : World} {M : Nat} {a : Option Addr} {len cap m er : Nat} (h : McAt w M a len cap m er) : mcMu M w = if er = 0 then m + 1 else 0 := by
  obtain ⟨_, h1, h2, _⟩ := h.facts
  unfold mcMu
  rw [h1, h2]
  show (if (er : Int) = 0 then (m : Int).toNat + 1 else 0) = _
  by_cases he : er = 0
  · rw [if_pos he, if_pos (by omega), Int.toNat_natCast]
  · rw [if_neg he, if_neg (by omega)]
end Go.Proofs.YtnfhpombnbpdcaaGreat
namespace Go.Proofs.YtnfhpombnbpdcaaGreat
open Go.RowKit
theorem sem_next {E : List Dl} {m : Nat} {A : Tm × Int} {H : Hr} (hH : onto (hd E) m A = H) (hm : m ≠ 0) (hA : (A.2 = 0 ∧ A.1.oka) ∨ (A.1 = tZ ∧ (A.2 = 1 ∨ A.2 = 2))) : (A.2.toNat = 0 ∧ A.1.oka ∧ hd E (m - 1) A.1 = H) ∨ (A.2.toNat ≠ 0 ∧ H = .no A.2.toNat) := by
  unfold onto at hH
  rw [if_neg hm] at hH
  rcases hA with ⟨h1, h2⟩ | ⟨_, h2⟩
  · rw [if_pos h1] at hH
    exact .inl ⟨by omega, h2, hH⟩
  · rw [if_neg (by omega)] at hH
    exact .inr ⟨by omega, hH.symm⟩
theorem sem_none {E : List Dl} {m : Nat} {A : Tm × Int} {H : Hr} (hH : onto (hd E) m A = H) (hm : m = 0) : H = .no 40 := by
  unfold onto at hH
  rw [if_pos hm] at hH
  exact hH.symm
theorem unf_some {E : List Dc} {t v : Tm} {i : Nat} (h : unf (E.map Dc.dl) t = some v) (hn : t.n = i) : t.k = 3 ∧ ∃ hi : i < E.length, v = E[i].va := by
  by_cases h3 : t.k = 3
  · by_cases hi : i < E.length
    · rw [unf_get h3 hn hi] at h
      split at h
      · injection h with h
        exact ⟨h3, hi, h.symm⟩
      · cases h
    · rw [unf_out hn hi] at h
      cases h
  · rw [unf_no3 h3] at h
    cases h
theorem hd_sub {B : Nat} {Bl : Nat → Nat} {Bh lo n n2 b : Nat} (hlo : lo ≤ n) (h : ((b < B ∨ (bq Bl Bh lo b = 0 ∧ b < n)) ∨ n ≤ b) ∧ b < n2) : b < B ∨ (bq Bl Bh lo b = 0 ∧ b < n2) := by
  obtain ⟨h | h, h2⟩ := h
  · omega
  · exact .inr ⟨bq_0.2 (.inr (by omega)), h2⟩
set_option maxHeartbeats 1000000 in
theorem hd_put {w : World} {M : Nat} {ea : Option Addr} {len cap B : Nat} {Bl : Nat → Nat} {Bh : Nat} {T : Tm} {la : Option Addr} {lc : Nat} {ka : Option Addr} {kc m : Nat} {wr W w3 : World} {A : Tm × Int} {la' : Option Addr} {lc' : Nat} {ka' : Option Addr} {kc' : Nat} (h : HdR w M ea len cap B Bl Bh T la lc ka kc m 0 wr) (hok : HdOk w M B Bl Bh)
    (hW : Below wr.heap.size wr W) (hb : Below W.heap.size W w3) (hA : A.2 = 0 ∨ A.2 = 1 ∨ A.2 = 2) (hl : SlIn w3 (fun b => ((b < B ∨ (bq Bl Bh (w.heap.size + 1 + 1) b = 0 ∧ b < wr.heap.size)) ∨ W.heap.size ≤ b) ∧ b < w3.heap.size) A.1.ls la' lc') (hs : TlIn w3 (fun b => ((b < B ∨ (bq Bl Bh (w.heap.size + 1 + 1) b = 0 ∧ b < wr.heap.size)) ∨ W.heap.size ≤ b) ∧ b < w3.heap.size) A.1.ks ka' kc') :
    Calls Tryz.prog 45 #[.pointer (some ⟨M, 0, none⟩), .agg #[.int .i64 A.1.k, .int .i64 A.1.n, .slice la' A.1.ls.len lc', .slice ka' A.1.ks.len kc'], .int .i64 A.2] w3 fun en w4 => en = .returned (.agg #[.int .i64 A.1.k, .int .i64 A.1.n, .slice la' A.1.ls.len lc', .slice ka' A.1.ks.len kc']) ∧
      (w4.cell? ⟨w.heap.size, 0, none⟩ = some (.int .i64 T.k) ∧ w4.cell? ⟨w.heap.size, 1, none⟩ = some (.int .i64 T.n) ∧ w4.cell? ⟨w.heap.size, 2, none⟩ = some (.slice la T.ls.len lc) ∧ w4.cell? ⟨w.heap.size, 3, none⟩ = some (.slice ka T.ks.len kc) ∧ (∀ o, w4.frozen? ⟨w.heap.size, o, none⟩ = false) ∧ w.heap.size < w4.heap.size) ∧ wr.grownBy w4 (some M) ∧ w4.cell? ⟨M, 0, none⟩ = some (.slice ea len cap) ∧
      Hid (HdR w M ea len cap B Bl Bh A.1 la' lc' ka' kc' m A.2.toNat ((((w4.setCell ⟨w.heap.size, 0, none⟩ (.int .i64 A.1.k)).setCell ⟨w.heap.size, 1, none⟩ (.int .i64 A.1.n)).setCell ⟨w.heap.size, 2, none⟩ (.slice la' A.1.ls.len lc')).setCell ⟨w.heap.size, 3, none⟩ (.slice ka' A.1.ks.len kc'))) := by
  have hb3 : Below wr.heap.size wr w3 := Below.step hW hb (Nat.le_refl _)
  have hm : McAt w3 M ea len cap m 0 := h.2.2.1.later hb3
  refine (r16Put_any M ea len cap m 0 A.2 A.1.k A.1.n la' ka' A.1.ls.len lc' A.1.ks.len kc' w3 hm).mono ?_
  rintro en w4 ⟨rfl, hm4, hg4⟩
  have hz := h.size
  have hz3 := hb3.size
  have hM := hok.2.1
  have hzW := hW.size
  have t4 := (Only.block hg4 (by omega) (by omega)).trans ((hb3.block w.heap.size (by omega)).trans h.1)
  have he : (if A.2 = 0 then (0 : Int) else if (0 : Int) = 0 then A.2 else 0) = ((A.2.toNat : Nat) : Int) := by
    rcases hA with e | e | e <;> rw [e] <;> rfl
  rw [he] at hm4
  obtain ⟨c0, c1, c2, c3⟩ := cells4 t4
  have hsub : ∀ b, ((b < B ∨ (bq Bl Bh (w.heap.size + 1 + 1) b = 0 ∧ b < wr.heap.size)) ∨ W.heap.size ≤ b) ∧ b < w3.heap.size → ((b < B ∨ (bq Bl Bh (w.heap.size + 1 + 1) b = 0 ∧ b < wr.heap.size)) ∨ wr.heap.size ≤ b) ∧ b < w3.heap.size := fun b hx => by omega
  exact ⟨rfl, ⟨c0, c1, c2, c3, free_of t4, lt_of_block t4⟩, Only.after (Only.below M hb3) hg4, hm4.facts.1, Lib.hid (h.next hok hb3 (hl.weak hsub) (hs.turn (fun _ _ => rfl) hsub) hg4 hm4)⟩
theorem HdR.alloc {w : World} {M : Nat} {ea : Option Addr} {len cap B : Nat} {Bl : Nat → Nat} {Bh : Nat} {T : Tm} {la : Option Addr} {lc : Nat} {ka : Option Addr} {kc m er : Nat} {wr : World} (h : HdR w M ea len cap B Bl Bh T la lc ka kc m er wr) (hok : HdOk w M B Bl Bh) (o : Obj) : HdR w M ea len cap B Bl Bh T la lc ka kc m er (wr.alloc o) :=
  h.turn hok (Only.alloc _ _ _) (h.2.2.1.later ((Below.refl _ _).alloc (Nat.le_refl _) _))
theorem HdR.cells {w : World} {M : Nat} {ea : Option Addr} {len cap B : Nat} {Bl : Nat → Nat} {Bh : Nat} {T : Tm} {la : Option Addr} {lc : Nat} {ka : Option Addr} {kc m er : Nat} {wr : World} (h : HdR w M ea len cap B Bl Bh T la lc ka kc m er wr) :
    (wr.cell? ⟨w.heap.size, 0, none⟩ = some (.int .i64 T.k) ∧ wr.cell? ⟨w.heap.size, 1, none⟩ = some (.int .i64 T.n) ∧ wr.cell? ⟨w.heap.size, 2, none⟩ = some (.slice la T.ls.len lc) ∧ wr.cell? ⟨w.heap.size, 3, none⟩ = some (.slice ka T.ks.len kc) ∧ (∀ o, wr.frozen? ⟨w.heap.size, o, none⟩ = false)) ∧
    (wr.cell? ⟨w.heap.size + 1, 0, none⟩ = some (.int .i64 0) ∧ wr.cell? ⟨w.heap.size + 1, 1, none⟩ = some (.int .i64 0) ∧ wr.cell? ⟨w.heap.size + 1, 2, none⟩ = some (.slice none 0 0) ∧ wr.cell? ⟨w.heap.size + 1, 3, none⟩ = some (.slice none 0 0) ∧ (∀ o, wr.frozen? ⟨w.heap.size + 1, o, none⟩ = false)) ∧
    wr.cell? ⟨M, 0, none⟩ = some (.slice ea len cap) ∧ wr.cell? ⟨M, 2, none⟩ = some (.int .i64 er) := by
  obtain ⟨c0, c1, c2, c3⟩ := cells4 h.1
  obtain ⟨z0, z1, z2, z3⟩ := cells4 h.2.1
  obtain ⟨m0, _, m2, _⟩ := h.2.2.1.facts
  exact ⟨⟨c0, c1, c2, c3, free_of h.1⟩, ⟨z0, z1, z2, z3, free_of h.2.1⟩, m0, m2⟩
theorem HdR.decls {w : World} {M : Nat} {ea : Option Addr} {len cap B : Nat} {Bl : Nat → Nat} {Bh : Nat} {T : Tm} {la : Option Addr} {lc : Nat} {ka : Option Addr} {kc m er : Nat} {wr : World} {E : List Dc} (h : HdR w M ea len cap B Bl Bh T la lc ka kc m er wr) (hok : HdOk w M B Bl Bh) (hE : DsIn w (· < B) E ea cap) : DsIn wr (· < B) E ea cap := by
  have h1 := hok.1
  have h2 := hok.2.1
  exact hE.keep (fun b hb => Only.block h.2.2.2.2.2 (by omega) (by omega))
theorem HdR.kidOk {w : World} {M : Nat} {ea : Option Addr} {len cap B : Nat} {Bl : Nat → Nat} {Bh : Nat} {T : Tm} {la : Option Addr} {lc : Nat} {ka : Option Addr} {kc m er : Nat} {wr : World} (h : HdR w M ea len cap B Bl Bh T la lc ka kc m er wr) (hok : HdOk w M B Bl Bh) : HdOk wr M B (bq Bl Bh (w.heap.size + 1 + 1)) wr.heap.size := by
  have hz := h.size
  obtain ⟨h1, h2, h3, h4⟩ := hok
  refine ⟨h1, by omega, Nat.le_refl _, fun hx => ?_⟩
  rcases bq_0.1 hx.1 with hx | hx
  · exact h4 hx
  · omega
end Go.Proofs.YtnfhpombnbpdcaaGreat
