/- Qrpn, Qwn. No condition but those that stand in each statement. -/
import Derived.Test.YtnfhpombnbpdcaaGreatZQ29
import Derived.Test.YtnfhpombnbpdcaaGreatZQ14
namespace Go.Proofs.YtnfhpombnbpdcaaGreat
open Go.RowKit
set_option maxRecDepth 100000 in
set_option maxHeartbeats 8000000 in
theorem qRep_new (P Q : Fo) (ap aq : Option Addr) (cp cq B : Nat) (s : Nat) : ∀ (f : Ft), f.size < s → f.size ≤ 1000 → f.lvsz 1000 → ∀ (k n : Int) (ls : Fo) (la ka : Option Addr) (lc kc : Nat) (w : World), ls.size ≤ 1000 → SlIn w (· < B) P ap cp → SlIn w (· < B) Q aq cq → RwIn w B ls la lc → TlIn w (· < B) f ka kc → B ≤ w.heap.size →
    Calls Tryz.prog 95 #[.agg #[.int .i64 k, .int .i64 n, .slice la ls.len lc, .slice ka f.len kc], .slice ap P.len cp, .slice aq Q.len cq] w (QrPost 0 (qRp P Q ⟨k, n, ls, f⟩) w) := by
  induction s with
  | zero => intro f hs; omega
  | succ s ih =>
    intro f hs hsz hlv k n ls la ka lc kc w hlz hsp hsq hls hsl hB
    have IH := Lib.hid ih
    clear ih
    have hlen := hsl.len
    have hlen2 := hls.len
    have HSL := Lib.hid hsl
    have HLS := Lib.hid hls
    have HSP := Lib.hid hsp
    have HSQ := Lib.hid hsq
    have HLV := Lib.hid hlv
    have HS := Lib.hid (TcR.start (w := w) (k := k) (n := n) (.cells #[.int .i64 k, .int .i64 n, .slice la ls.len lc, .slice ka f.len kc] 30) (Nat.zero_le _))
    clear hsl hls hsp hsq hlv
    go_enter Tryz.func95, Tryz.ntmps95
    go_wp2_with fail
    go_loopw [25] (fun jv wr => ∃ (j : Nat) (G rest L' : Fo) (v : Value), jv = .int .i64 j ∧ Hid (ls = G.app rest) ∧ Hid (G.len = j) ∧ Hid (L' = sbF P Q G ∧ L'.len = j ∧ lvOkB P Q G = true) ∧ Hid (TcR w (.cells #[.int .i64 k, .int .i64 n, .slice la ls.len lc, .slice ka f.len kc] 30) (w.heap.size + 1 + 1) 0 k n L' v wr)) (fun jv _ => ls.len - (intOf jv).toNat)
    case atStart => exact ⟨0, .nil, ls, .nil, _, rfl, Lib.hid rfl, Lib.hid rfl, Lib.hid ⟨rfl, rfl, rfl⟩, HS⟩
    case round =>
      obtain ⟨j, G, rest, L', v, rfl, hf, hj, hL, hR⟩ := hrel
      obtain ⟨hbox, q2, qz, hob, hwr⟩ := hR.out.facts
      obtain ⟨c0, c1, c2, c3⟩ := cells4 hbox
      cases rest with
      | nil =>
        have hjl : ¬ (j : Int) < (ls.len : Int) := by rw [hf.out, foNil3, hj.out]; omega
        have dj : decide ((j : Int) < (ls.len : Int)) = false := by simpa using hjl
        obtain ⟨x, c, rfl, hK⟩ := hR.out.kids
        have HG : Hid (ls = G) := Lib.hid (by rw [hf.out, foNil3])
        have HK := Lib.hid hK
        have HL : Hid (L' = sbF P Q ls ∧ True ∧ lvOkB P Q ls = true) := Lib.hid (by rw [HG.out]; exact ⟨hL.out.1, trivial, hL.out.2.2⟩)
        obtain ⟨W, hW⟩ : ∃ W, W = wr := ⟨_, rfl⟩
        rw [← hW] at c2 c3 HK q2 qz hob hwr hbox ⊢
        clear hK hR hf hj hW hbox c0 c1
        go_wp2_with fail
        go_loopw [49] (fun jv wr => ∃ (j : Nat) (H rest : Ft) (v : Value), jv = .int .i64 j ∧ Hid (f = H.app rest) ∧ Hid (H.len = j) ∧ Hid (qOk P Q H = true) ∧ Hid (TcK w (.cells #[.int .i64 k, .int .i64 n, .slice la ls.len lc, .slice ka f.len kc] 30) (w.heap.size + 1 + 1) W.heap.size 0 k n L' x c (qF P Q H) v wr)) (fun jv _ => f.len - (intOf jv).toNat)
        case atStart => exact ⟨0, .nil, f, _, rfl, Lib.hid rfl, Lib.hid rfl, Lib.hid rfl, HK⟩
        case round =>
          clear c2 c3 q2 qz hob hwr
          obtain ⟨j, H, rest, v, rfl, hf, hj, hQ, hR⟩ := hrel
          obtain ⟨hbox, ⟨g0, g1, g2, g3, gz⟩, ⟨q0, q1, q2, q3, qz⟩, hob, hwr⟩ := hR.out.facts
          obtain ⟨c0, c1, c2, c3⟩ := cells4 hbox
          cases rest with
          | nil =>
            have hjl' : ¬ (j : Int) < (f.len : Int) := by rw [hf.out, Ft.app_nil, hj.out]; omega
            have dj' : decide ((j : Int) < (f.len : Int)) = false := by simpa using hjl'
            obtain ⟨y, d, rfl, hE⟩ := hR.out.done
            have HE := Lib.hid (QrPost.of (T := ⟨k, n, L', qF P Q H⟩) hE)
            have HF : Hid (qRp P Q ⟨k, n, ls, f⟩ = (⟨k, n, L', qF P Q H⟩, 0)) := Lib.hid (by
              have e1 : f = H := by rw [hf.out, Ft.app_nil]
              rw [qRp_yes (by unfold Tm.qok; show (lvOkB P Q ls && qOk P Q f) = true; rw [HL.out.2.2, e1, hQ.out]; rfl)]
              unfold Tm.q
              rw [HL.out.1, e1])
            clear hE hR hf hbox c0 c1 c2
            go_wp2_with fail
            refine bodyPost_ret (v := .tuple #[.agg #[.int .i64 k, .int .i64 n, .slice x L'.len c, .slice y (qF P Q H).len d], (.int .i64 0)]) (by simp [results, Tryz.results95, go_sem, g0, g1, g2, g3]) rfl ?_
            rw [HF.out]
            exact HE.out
          | cons k' n' ls' ks r' =>
            have hjn : j < f.len := by rw [hf.out, Ft.app_len, hj.out]; simp [Ft.len]
            have hjl2 : (j : Int) < (f.len : Int) := by omega
            obtain ⟨bq, o, rfl, hbB, hf0⟩ := HSL.out.some (by omega)
            have hfa : FtIn w (· < B) (.cons k' n' ls' ks r') bq (o + j * 4) := by
              have h1 := hf0
              rw [hf.out] at h1
              rw [← hj.out]
              exact FtIn.behind H _ bq o h1
            obtain ⟨e0, e1, ⟨la', lc', e2, hls'⟩, ⟨ka', kc', e3, hsl'⟩, _⟩ := (hfa.below (hwr.mono hB) _ _ _ hbB).first
            have hfs : f.size = H.size + (ks.size + r'.size + 1) := by rw [hf.out, Ft.app_size]; rfl
            have hks : ks.size < s := by omega
            have hlv' : ls'.size ≤ 1000 ∧ ks.lvsz 1000 := by
              have h1 := HLV.out
              rw [hf.out, Ft.lvsz_app] at h1
              exact ⟨h1.2.1, h1.2.2.1⟩
            have hBr : B ≤ wr.heap.size := Nat.le_trans hB hwr.size
            have hbv : Below wr.heap.size wr (wr.alloc (.cells #[.int .i64 k', .int .i64 n', .slice la' ls'.len lc', .slice ka' ks.len kc'] 30)) := (Below.refl _ _).alloc (Nat.le_refl _) _
            have hBv : B ≤ (wr.alloc (.cells #[.int .i64 k', .int .i64 n', .slice la' ls'.len lc', .slice ka' ks.len kc'] 30)).heap.size := Nat.le_trans hBr hbv.size
            have hvb := Below.step hwr hbv (Nat.le_refl _)
            have HC : Hid (Calls Tryz.prog 95 #[.agg #[.int .i64 k', .int .i64 n', .slice la' ls'.len lc', .slice ka' ks.len kc'], .slice ap P.len cp, .slice aq Q.len cq] (wr.alloc (.cells #[.int .i64 k', .int .i64 n', .slice la' ls'.len lc', .slice ka' ks.len kc'] 30)) (QrPost 0 (qRp P Q ⟨k', n', ls', ks⟩) (wr.alloc (.cells #[.int .i64 k', .int .i64 n', .slice la' ls'.len lc', .slice ka' ks.len kc'] 30)))) :=
              Lib.hid (IH.out ks hks (by omega) hlv'.2 k' n' ls' la' ka' lc' kc' (wr.alloc (.cells #[.int .i64 k', .int .i64 n', .slice la' ls'.len lc', .slice ka' ks.len kc'] 30)) hlv'.1 (HSP.out.below (hvb.mono hB)) (HSQ.out.below (hvb.mono hB)) (RwIn.of (hls'.below (hbv.mono hBr)) hBv) (hsl'.below (hbv.mono hBr)) hBv)
            cases hE : (⟨k', n', ls', ks⟩ : Tm).qok P Q with
            | true =>
              rw [qRp_yes hE] at HC
              have hE2 := hE
              unfold Tm.qok at hE2
              have HT : Hid ((⟨k', n', ls', ks⟩ : Tm).q P Q = ⟨k', n', sbF P Q ls', qF P Q ks⟩) := Lib.hid rfl
              have HQ2 : Hid (qF P Q (H.app (.cons k' n' ls' ks .nil)) = (qF P Q H).app ((⟨k', n', ls', ks⟩ : Tm).q P Q).one ∧ qOk P Q (H.app (.cons k' n' ls' ks .nil)) = true) := Lib.hid (by
                refine ⟨by rw [qF_app]; rfl, ?_⟩
                rw [qOk_app, hQ.out]
                show (true && ((lvOkB P Q ls' && qOk P Q ks) && true)) = true
                rw [show (lvOkB P Q ls' && qOk P Q ks) = true from hE2]; rfl)
              have hHl : (qF P Q H).len = j := by rw [qF_len, hj.out]
              generalize (⟨k', n', ls', ks⟩ : Tm).q P Q = T at HC HQ2
              have HAP : Hid (∀ (e : Ending) (w2 : World), QrPost 0 (T, 0) (wr.alloc (.cells #[.int .i64 k', .int .i64 n', .slice la' ls'.len lc', .slice ka' ks.len kc'] 30)) e w2 → ∃ (x1 : Option Addr) (y1 : Nat) (x2 : Option Addr) (y2 : Nat), e = .returned (.tuple #[.agg #[.int .i64 T.k, .int .i64 T.n, .slice x1 T.ls.len y1, .slice x2 T.ks.len y2], (.int .i64 0)]) ∧
                  (w2.alloc (.cells #[.int .i64 T.k, .int .i64 T.n, .slice x1 T.ls.len y1, .slice x2 T.ks.len y2] 30)).cell? ⟨w.heap.size + 1 + 1, 3, none⟩ = some v ∧ w.heap.size + 1 + 1 < w2.heap.size ∧ ((w2.alloc (.cells #[.int .i64 T.k, .int .i64 T.n, .slice x1 T.ls.len y1, .slice x2 T.ks.len y2] 30)).alloc (.cells #[.int .i64 T.k, .int .i64 T.n, .slice x1 T.ls.len y1, .slice x2 T.ks.len y2] 30)).cell? ⟨w.heap.size + 1 + 1, 3, none⟩ = some v ∧
                  ∃ g' cap' w3, Hid ((Builtin.append_ #[28, 28] 28 #[v, .slice (some ⟨w2.heap.size + 1, 0, none⟩) 1 1]).run Tryz.prog ((w2.alloc (.cells #[.int .i64 T.k, .int .i64 T.n, .slice x1 T.ls.len y1, .slice x2 T.ks.len y2] 30)).alloc (.cells #[.int .i64 T.k, .int .i64 T.n, .slice x1 T.ls.len y1, .slice x2 T.ks.len y2] 30)) = .ok (.slice (some ⟨g', 0, none⟩) (j + 1) cap') w3) ∧
                    w3.cell? ⟨w.heap.size + 1 + 1, 3, none⟩ = some v ∧ (∀ o, w3.frozen? ⟨w.heap.size + 1 + 1, o, none⟩ = false) ∧ Hid (TcK w (.cells #[.int .i64 k, .int .i64 n, .slice la ls.len lc, .slice (some ⟨bq, o, none⟩) f.len kc] 30) (w.heap.size + 1 + 1) W.heap.size 0 k n L' x c (qF P Q (H.app (.cons k' n' ls' ks .nil))) (.slice (some ⟨g', 0, none⟩) (j + 1) cap') (w3.setCell ⟨w.heap.size + 1 + 1, 3, none⟩ (.slice (some ⟨g', 0, none⟩) (j + 1) cap')))) := Lib.hid (by
                rintro e w2 ⟨x1, y1, x2, y2, rfl, t0, t1, t2⟩
                have hbx : Below w2.heap.size w2 (w2.alloc (.cells #[.int .i64 T.k, .int .i64 T.n, .slice x1 T.ls.len y1, .slice x2 T.ks.len y2] 30)) := (Below.refl _ _).alloc (Nat.le_refl _) _
                have t2 := Below.step hbv t2 (Nat.le_refl _)
                have hzv : wr.heap.size ≤ (wr.alloc (.cells #[.int .i64 k', .int .i64 n', .slice la' ls'.len lc', .slice ka' ks.len kc'] 30)).heap.size := hbv.size
                have hG1 : (qF P Q H).len ≤ 1000 := by rw [hHl]; have h1 := Ft.len_le_size f; omega
                have hP : ∀ q, (q < 0 ∨ (wr.alloc (.cells #[.int .i64 k', .int .i64 n', .slice la' ls'.len lc', .slice ka' ks.len kc'] 30)).heap.size ≤ q) ∧ q < w2.heap.size → (q < 0 ∨ wr.heap.size ≤ q) ∧ q < (w2.alloc (.cells #[.int .i64 T.k, .int .i64 T.n, .slice x1 T.ls.len y1, .slice x2 T.ks.len y2] 30)).heap.size := fun q hq => ⟨by have := hq.1; omega, by simp; omega⟩
                obtain ⟨L2, hlb2, g', cap', w3, hrun, L3, Z3, hN⟩ := TcK.next (T := T) hR.out hG1 ((t0.keep (fun b hb => hbx.block b hb.2)).weak hP) (t1.turn (fun b hb => hbx.block b hb.2) hP) (Below.step t2 hbx (Nat.le_refl _))
                rw [hHl] at hrun hN
                rw [HQ2.out.1]
                simp only [World.size_alloc] at hrun
                exact ⟨x1, y1, x2, y2, rfl, L2, Nat.lt_of_lt_of_le hob t2.size, (World.cell?_of_block (w := w2.alloc (.cells #[.int .i64 T.k, .int .i64 T.n, .slice x1 T.ls.len y1, .slice x2 T.ks.len y2] 30)) (a := ⟨w.heap.size + 1 + 1, 3, none⟩) (heap_old _ _ hlb2)).trans L2, g', cap', w3, Lib.hid hrun, L3, Z3, Lib.hid hN⟩)
              have HSN : Hid (f = (H.app (.cons k' n' ls' ks .nil)).app r') := Lib.hid (by rw [hf.out, Ft.app_assoc]; rfl)
              have HJ := Lib.hid hj.out
              clear hf hR hfa hf0 g0 g1 g2 g3 gz q0 q1 q2 q3 qz hls' hsl' hlv' hfs hbox hE hE2 hHl hQ HT c0 c1 c2 c3 hbv hvb hBv
              go_wp2_with fail
              refine HC.out.mono ?_
              intro e w2 hP
              obtain ⟨x1, y1, x2, y2, rfl, L2, hlb2, L2a, g', cap2, w3, HRUN, L3, Z3, HN⟩ := HAP.out e w2 hP
              clear hP HC HAP
              go_wp2_with (at_builtin; refine wpList_append_run (by rfl) _ _ _ (by rfl) (by rfl) (by rfl) HRUN.out ?_)
              go_roundw
              case rel => exact ⟨j + 1, _, r', _, by go_num, HSN, Lib.hid (by rw [Ft.app_len, HJ.out]; rfl), Lib.hid HQ2.out.2, HN⟩
              case measure => simp [intOf]; omega
            | false =>
              rw [qRp_no hE] at HC
              have HQN : Hid ((⟨k, n, ls, f⟩ : Tm).qok P Q = false) := Lib.hid (by
                unfold Tm.qok at hE ⊢
                show (lvOkB P Q ls && qOk P Q f) = false
                rw [hf.out, qOk_app]
                show (lvOkB P Q ls && (qOk P Q H && ((lvOkB P Q ls' && qOk P Q ks) && qOk P Q r'))) = false
                rw [show (lvOkB P Q ls' && qOk P Q ks) = false from hE]; simp)
              have HRZ : Hid (∀ (w2 : World) (ob : Obj), Below wr.heap.size wr w2 → ∀ w3, w3 = w2.alloc ob → (w3.cell? ⟨w.heap.size + 1, 0, none⟩ = some (.int .i64 0) ∧ w3.cell? ⟨w.heap.size + 1, 1, none⟩ = some (.int .i64 0) ∧ w3.cell? ⟨w.heap.size + 1, 2, none⟩ = some (.slice none 0 0) ∧ w3.cell? ⟨w.heap.size + 1, 3, none⟩ = some (.slice none 0 0) ∧ (∀ o, w3.frozen? ⟨w.heap.size + 1, o, none⟩ = false)) ∧ w.heap.size + 1 < w2.heap.size ∧ Hid (Below w.heap.size w w3)) := Lib.hid (by
                rintro w2 ob hb w3 rfl
                have hR1 := hR.out.2.1
                have hlt := lt_of_block hR1
                have hb3 := Below.step hb ((Below.refl w2.heap.size w2).alloc (Nat.le_refl _) ob) (Nat.le_refl _)
                have h3 := (hb3.block _ hlt).trans hR1
                exact ⟨⟨cell_at h3 0, cell_at h3 1, cell_at h3 2, cell_at h3 3, free_of h3⟩, Nat.lt_of_lt_of_le hlt hb.size, Lib.hid (Below.step hwr hb3 (Nat.le_refl _))⟩)
              have HBV := Lib.hid hbv
              clear hf hR hfa hf0 hls' hsl' hfs hbox g0 g1 g2 g3 gz q0 q1 q2 q3 qz c0 c1 c2 c3 hE hlv' hbv hvb hBv
              go_wp2_with fail
              refine HC.out.mono ?_
              rintro e w2 ⟨x1, y1, x2, y2, rfl, -, -, t2'⟩
              have t2 := Below.step HBV.out t2' (Nat.le_refl _)
              clear t2'
              go_upto_region 15 with fail
              obtain ⟨w3, hw3⟩ : ∃ w3, w3 = w2.alloc (.cells #[.int .i64 tZ.k, .int .i64 tZ.n, .slice x1 tZ.ls.len y1, .slice x2 tZ.ks.len y2] 30) := ⟨_, rfl⟩
              obtain ⟨⟨g0, g1, g2, g3, gz⟩, hlb, HB3⟩ := HRZ.out w2 (.cells #[.int .i64 tZ.k, .int .i64 tZ.n, .slice x1 tZ.ls.len y1, .slice x2 tZ.ks.len y2] 30) t2 w3 hw3
              have hlb3 : w.heap.size + 1 < w3.heap.size := by rw [hw3]; simp; omega
              rw [← hw3]
              clear t2 hw3 hlb
              go_wp2_with fail
              refine bodyPost_ret (v := .tuple #[.agg #[.int .i64 0, .int .i64 0, .slice none 0 0, .slice none 0 0], (.int .i64 2)]) (by simp [results, Tryz.results95, go_sem, g0, g1, g2, g3]) rfl ?_
              rw [qRp_no HQN.out]
              exact QrPost.no ((((HB3.out.setCell (by simp) _).setCell (by simp) _).setCell (by simp) _).setCell (by simp) _)
      | cons k' n' ks r' =>
        have hjn : j < ls.len := by rw [hf.out, Fo.app_len, hj.out]; simp [Fo.len]
        have hjl : (j : Int) < (ls.len : Int) := by omega
        obtain ⟨b, o, rfl, hbB, hf0⟩ := HLS.out.2.2 (by omega)
        have hfa : FoIn w (· < B) (.cons k' n' ks r') b (o + j * 3) := by
          have h1 := hf0
          rw [hf.out] at h1
          rw [← hj.out]
          exact FoIn.behind3 G _ b o h1
        obtain ⟨e0, e1, ⟨a', cap', e2, hsl'⟩, _⟩ := (foIn_low hwr hB hbB hfa).first
        have hfs : ls.size = G.size + (ks.size + r'.size + 1) := by rw [hf.out, Fo.app_size]; rfl
        have hBr : B ≤ wr.heap.size := Nat.le_trans hB hwr.size
        have hbv : Below wr.heap.size wr (wr.alloc (.cells #[.int .i64 k', .int .i64 n', .slice a' ks.len cap'] 45)) := (Below.refl _ _).alloc (Nat.le_refl _) _
        have hBv : B ≤ (wr.alloc (.cells #[.int .i64 k', .int .i64 n', .slice a' ks.len cap'] 45)).heap.size := Nat.le_trans hBr hbv.size
        have hvb := Below.step hwr hbv (Nat.le_refl _)
        have HC : Hid (Calls Tryz.prog 103 #[.agg #[.int .i64 k', .int .i64 n', .slice a' ks.len cap'], .slice ap P.len cp, .slice aq Q.len cq] (wr.alloc (.cells #[.int .i64 k', .int .i64 n', .slice a' ks.len cap'] 45)) (SuPostB 0 (subT P Q k' n' ks) (subE P Q k' n' ks) (wr.alloc (.cells #[.int .i64 k', .int .i64 n', .slice a' ks.len cap'] 45)))) :=
          Lib.hid (sSub_ofn P Q k' n' ks a' ap aq cap' cp cq B (wr.alloc (.cells #[.int .i64 k', .int .i64 n', .slice a' ks.len cap'] 45)) (hsl'.below (hbv.mono hBr)) (HSP.out.below (hvb.mono hB)) (HSQ.out.below (hvb.mono hB)) hBv)
        by_cases hE : subE P Q k' n' ks = 0
        · have hT : subT P Q k' n' ks = sb1 P Q k' n' (sbF P Q ks) := by unfold subT; rw [if_pos hE]
          have HAP : Hid (∀ (e : Ending) (w2 : World), SuPostB 0 (subT P Q k' n' ks) (subE P Q k' n' ks) (wr.alloc (.cells #[.int .i64 k', .int .i64 n', .slice a' ks.len cap'] 45)) e w2 → ∃ (k2 n2 : Int) (F2 : Fo) (x2 : Option Addr) (c2 : Nat), e = .returned (.tuple #[.agg #[.int .i64 k2, .int .i64 n2, .slice x2 F2.len c2], .int .i64 0]) ∧
              (w2.alloc (.cells #[.int .i64 k2, .int .i64 n2, .slice x2 F2.len c2] 45)).cell? ⟨w.heap.size + 1 + 1, 2, none⟩ = some v ∧ w.heap.size + 1 + 1 < w2.heap.size ∧ ((w2.alloc (.cells #[.int .i64 k2, .int .i64 n2, .slice x2 F2.len c2] 45)).alloc (.cells #[.int .i64 k2, .int .i64 n2, .slice x2 F2.len c2] 45)).cell? ⟨w.heap.size + 1 + 1, 2, none⟩ = some v ∧
              ∃ g' cap' w3, Hid ((Builtin.append_ #[27, 27] 27 #[v, .slice (some ⟨w2.heap.size + 1, 0, none⟩) 1 1]).run Tryz.prog ((w2.alloc (.cells #[.int .i64 k2, .int .i64 n2, .slice x2 F2.len c2] 45)).alloc (.cells #[.int .i64 k2, .int .i64 n2, .slice x2 F2.len c2] 45)) = .ok (.slice (some ⟨g', 0, none⟩) (j + 1) cap') w3) ∧
                w3.cell? ⟨w.heap.size + 1 + 1, 2, none⟩ = some v ∧ (∀ o, w3.frozen? ⟨w.heap.size + 1 + 1, o, none⟩ = false) ∧
                Hid (L'.app (.cons k2 n2 F2 .nil) = sbF P Q (G.app (.cons k' n' ks .nil)) ∧ (L'.app (.cons k2 n2 F2 .nil)).len = j + 1 ∧ lvOkB P Q (G.app (.cons k' n' ks .nil)) = true) ∧
                Hid (TcR w (.cells #[.int .i64 k, .int .i64 n, .slice (some ⟨b, o, none⟩) ls.len lc, .slice ka f.len kc] 30) (w.heap.size + 1 + 1) 0 k n (L'.app (.cons k2 n2 F2 .nil)) (.slice (some ⟨g', 0, none⟩) (j + 1) cap') (w3.setCell ⟨w.heap.size + 1 + 1, 2, none⟩ (.slice (some ⟨g', 0, none⟩) (j + 1) cap')))) := Lib.hid (by
            rintro e w2 ⟨k2, n2, F2, x2, c2, hT2, rfl, t1, t2⟩
            rw [hE]
            rw [hT] at hT2
            have hbx : Below w2.heap.size w2 (w2.alloc (.cells #[.int .i64 k2, .int .i64 n2, .slice x2 F2.len c2] 45)) := (Below.refl _ _).alloc (Nat.le_refl _) _
            have t2 := Below.step hbv t2 (Nat.le_refl _)
            have hzv : wr.heap.size ≤ (wr.alloc (.cells #[.int .i64 k', .int .i64 n', .slice a' ks.len cap'] 45)).heap.size := hbv.size
            have hG1 : L'.len ≤ 1000 := by rw [hL.out.2.1]; have := Fo.len_le_size ls; omega
            have t3 : SlIn (w2.alloc (.cells #[.int .i64 k2, .int .i64 n2, .slice x2 F2.len c2] 45)) (fun b => (b < 0 ∨ wr.heap.size ≤ b) ∧ b < (w2.alloc (.cells #[.int .i64 k2, .int .i64 n2, .slice x2 F2.len c2] 45)).heap.size) F2 x2 c2 :=
              (t1.keep (fun b hb => hbx.block b hb.2)).weak (fun b hb => ⟨by have := hb.1; omega, by simp; omega⟩)
            obtain ⟨L2, hlb2, g', cap', w3, hrun, L3, Z3, hN⟩ := TcR.next (k' := k2) (n' := n2) hR.out hG1 t3 (Below.step t2 hbx (Nat.le_refl _))
            rw [hL.out.2.1] at hrun hN
            simp only [World.size_alloc] at hrun
            have hob2 := Nat.lt_of_lt_of_le hob t2.size
            refine ⟨k2, n2, F2, x2, c2, rfl, L2, hob2, (World.cell?_of_block (w := w2.alloc (.cells #[.int .i64 k2, .int .i64 n2, .slice x2 F2.len c2] 45)) (a := ⟨w.heap.size + 1 + 1, 2, none⟩) (heap_old _ _ hlb2)).trans L2, g', cap', w3, Lib.hid hrun, L3, Z3, Lib.hid ⟨?_, ?_, ?_⟩, Lib.hid hN⟩
            · rw [sbF_app, hL.out.1]
              show _ = (sbF P Q G).app ((sb1 P Q k' n' (sbF P Q ks)).app .nil)
              rw [hT2, foNil3]
            · rw [Fo.app_len, hL.out.2.1]; rfl
            · rw [lvOk_app, hL.out.2.2]
              simp [lvOkB, hE])
          have HSN : Hid (ls = (G.app (.cons k' n' ks .nil)).app r') := Lib.hid (by rw [hf.out, foAss3]; rfl)
          have HJ := Lib.hid hj.out
          clear hf hR hfa hf0 qz hsl' hfs hbox hE hT c0 c1 c2 c3 hbv hvb hBv
          go_wp2_with fail
          refine HC.out.mono ?_
          intro e w2 hP
          obtain ⟨k2, n2, F2, x2, c2', rfl, L2, hlb2, L2a, g', cap2, w3, HRUN, L3, Z3, HL3, HN⟩ := HAP.out e w2 hP
          clear hP HC HAP
          go_wp2_with (at_builtin; refine wpList_append_run (by rfl) _ _ _ (by rfl) (by rfl) (by rfl) HRUN.out ?_)
          go_roundw
          case rel => exact ⟨j + 1, _, r', _, _, by go_num, HSN, Lib.hid (by rw [Fo.app_len, HJ.out]; rfl), HL3, HN⟩
          case measure => simp [intOf]; omega
        · have HQN : Hid ((⟨k, n, ls, f⟩ : Tm).qok P Q = false) := Lib.hid (by
            unfold Tm.qok
            show (lvOkB P Q ls && _) = false
            rw [hf.out, lvOk_app]
            simp [lvOkB, hE])
          have HRZ : Hid (∀ (w2 : World) (ob : Obj), Below wr.heap.size wr w2 → ∀ w3, w3 = w2.alloc ob → (w3.cell? ⟨w.heap.size + 1, 0, none⟩ = some (.int .i64 0) ∧ w3.cell? ⟨w.heap.size + 1, 1, none⟩ = some (.int .i64 0) ∧ w3.cell? ⟨w.heap.size + 1, 2, none⟩ = some (.slice none 0 0) ∧ w3.cell? ⟨w.heap.size + 1, 3, none⟩ = some (.slice none 0 0) ∧ (∀ o, w3.frozen? ⟨w.heap.size + 1, o, none⟩ = false)) ∧ w.heap.size + 1 < w2.heap.size ∧ Hid (Below w.heap.size w w3)) := Lib.hid (by
            rintro w2 ob hb w3 rfl
            have hR1 := hR.out.2.1
            have hlt := lt_of_block hR1
            have hb3 := Below.step hb ((Below.refl w2.heap.size w2).alloc (Nat.le_refl _) ob) (Nat.le_refl _)
            have h3 := (hb3.block _ hlt).trans hR1
            exact ⟨⟨cell_at h3 0, cell_at h3 1, cell_at h3 2, cell_at h3 3, free_of h3⟩, Nat.lt_of_lt_of_le hlt hb.size, Lib.hid (Below.step hwr hb3 (Nat.le_refl _))⟩)
          generalize subE P Q k' n' ks = E at HC hE
          generalize subT P Q k' n' ks = T2 at HC
          have hE1 : (E == 0) = false := beq_eq_false_iff_ne.2 hE
          have HBV := Lib.hid hbv
          clear hf hR hfa hf0 hsl' hfs hbox c0 c1 c2 c3 hbv hvb hBv
          go_wp2_with fail
          refine HC.out.mono ?_
          rintro e w2 ⟨k2, n2, F2, x2, c2', -, rfl, -, t2'⟩
          have t2 := Below.step HBV.out t2' (Nat.le_refl _)
          clear t2'
          go_upto_region 7 with fail
          obtain ⟨w3, hw3⟩ : ∃ w3, w3 = w2.alloc (.cells #[.int .i64 k2, .int .i64 n2, .slice x2 F2.len c2'] 45) := ⟨_, rfl⟩
          obtain ⟨⟨g0, g1, g2, g3, gz⟩, hlb, HB3⟩ := HRZ.out w2 (.cells #[.int .i64 k2, .int .i64 n2, .slice x2 F2.len c2'] 45) t2 w3 hw3
          have hlb3 : w.heap.size + 1 < w3.heap.size := by rw [hw3]; simp; omega
          rw [← hw3]
          clear t2 hw3 hlb
          go_wp2_with fail
          refine bodyPost_ret (v := .tuple #[.agg #[.int .i64 0, .int .i64 0, .slice none 0 0, .slice none 0 0], (.int .i64 2)]) (by simp [results, Tryz.results95, go_sem, g0, g1, g2, g3]) rfl ?_
          rw [qRp_no HQN.out]
          exact QrPost.no ((((HB3.out.setCell (by simp) _).setCell (by simp) _).setCell (by simp) _).setCell (by simp) _)
end Go.Proofs.YtnfhpombnbpdcaaGreat
namespace Go.Proofs.YtnfhpombnbpdcaaGreat
open Go.RowKit
set_option maxRecDepth 100000 in
set_option maxHeartbeats 8000000 in
theorem qSub_new (P Q : Fo) (T : Tm) (la ka ap aq : Option Addr) (lc kc cp cq B N : Nat) (w : World) (hlr : RwIn w B T.ls la lc) (hls : SlIn w (· < N) T.ls la lc) (hsl : TlIn w (· < B) T.ks ka kc) (hsp : SlIn w (· < B) P ap cp) (hsq : SlIn w (· < B) Q aq cq) (hB : B ≤ w.heap.size) (hBN : B ≤ N) (hN : N ≤ w.heap.size) :
    Calls Tryz.prog 78 #[.agg #[.int .i64 T.k, .int .i64 T.n, .slice la T.ls.len lc, .slice ka T.ks.len kc], .slice ap P.len cp, .slice aq Q.len cq] w (QrPost 0 (qA P Q T) w) := by
  have hb0 : Below (w.heap.size + 1 + 1) (TuW w T.k T.n la ka T.ls.len lc T.ks.len kc) (TuW w T.k T.n la ka T.ls.len lc T.ks.len kc) := Below.refl _ _
  have HL : Hid (∀ W, Below (w.heap.size + 1 + 1) (TuW w T.k T.n la ka T.ls.len lc T.ks.len kc) W → Calls Tryz.prog 24 #[.agg #[.int .i64 T.k, .int .i64 T.n, .slice la T.ls.len lc, .slice ka T.ks.len kc], .int .i64 1000, .int .i64 5, .int .i64 10] W fun e w' => e = .returned (.bool T.sh) ∧ Below W.heap.size W w') := Lib.hid (fun W h =>
    tRight_any 5 10 1000 T.k T.n T.ls T.ks la ka lc kc N W (hls.below ((tuW_at h).2.2.1.mono hN)) ((hsl.mono hBN).below ((tuW_at h).2.2.1.mono hN)) (by have := (tuW_at h).2.2.2; omega))
  have HP : Hid (∀ W, Below (w.heap.size + 1 + 1) (TuW w T.k T.n la ka T.ls.len lc T.ks.len kc) W → Calls Tryz.prog 94 #[.slice ap P.len cp, .slice aq Q.len cq] W fun e w' => e = .returned (.bool (parB P Q)) ∧ Below W.heap.size W w') := Lib.hid (fun W h =>
    qMay_any P Q ap aq cp cq B W (hsp.below ((tuW_at h).2.2.1.mono hB)) (hsq.below ((tuW_at h).2.2.1.mono hB)) (by have := (tuW_at h).2.2.2; omega))
  have HSB : Hid (∀ (W : World), Below (w.heap.size + 1 + 1) (TuW w T.k T.n la ka T.ls.len lc T.ks.len kc) W → T.sh = true → Calls Tryz.prog 95 #[.agg #[.int .i64 T.k, .int .i64 T.n, .slice la T.ls.len lc, .slice ka T.ks.len kc], .slice ap P.len cp, .slice aq Q.len cq] W (QrPost 0 (qRp P Q T) W)) := Lib.hid (fun W hb r1 => by
    obtain ⟨_, _, y5, y6⟩ := tuW_at hb
    have yB := y5.mono hB
    obtain ⟨p1, p2, p3⟩ := sh_small9 r1
    exact qRep_new P Q ap aq cp cq B (T.ks.size + 1) T.ks (Nat.lt_succ_self _) p1 p2 T.k T.n T.ls la ka lc kc W p3 (hsp.below yB) (hsq.below yB) (hlr.later hB y5) (hsl.below yB) (by omega))
  have HNO : Hid (T.sh = false ∨ parB P Q = false → qA P Q T = (tZ, 1)) := Lib.hid qA_arg
  have HYES : Hid (T.sh = true → parB P Q = true → qA P Q T = qRp P Q T) := Lib.hid qA_R
  have HB0 := Lib.hid hb0
  clear hls hlr hsl hsp hsq hb0
  generalize hv : T.sh = v at HL HSB HNO HYES
  generalize hvp : parB P Q = vp at HP HNO HYES
  clear hv hvp
  go_enter Tryz.func78, Tryz.ntmps78
  go_wp2_with fail
  refine (HL.out _ HB0.out).mono ?_
  rintro e w1 ⟨rfl, hb1⟩
  have B1 := Lib.hid (tuW_step HB0.out hb1)
  clear hb1
  obtain ⟨⟨x1, x2, x3, x4⟩, ⟨z1, z2, z3, z4⟩, zf, zl⟩ := tuW_cells B1.out
  cases v with
  | false =>
    have HE := Lib.hid (HNO.out (.inl rfl))
    have HF := Lib.hid (QrPost.no (B := 0) (E := 1) (tuW_low B1.out (.int .i64 0) (.int .i64 0) (.slice none 0 0) (.slice none 0 0)))
    go_wp2_with fail
    refine bodyPost_ret (v := .tuple #[.agg #[.int .i64 0, .int .i64 0, .slice none 0 0, .slice none 0 0], .int .i64 1]) (by simp [results, Tryz.results78, go_sem, z1, z2, z3, z4]) rfl ?_
    rw [HE.out]
    exact HF.out
  | true =>
    go_wp2_with fail
    refine (HP.out _ B1.out).mono ?_
    rintro e w2 ⟨rfl, hb2⟩
    have B2 := Lib.hid (tuW_step B1.out hb2)
    clear hb2 x1 x2 x3 x4 z1 z2 z3 z4 zf zl
    obtain ⟨⟨x1, x2, x3, x4⟩, ⟨z1, z2, z3, z4⟩, zf, zl⟩ := tuW_cells B2.out
    cases vp with
    | false =>
      have HE := Lib.hid (HNO.out (.inr rfl))
      have HF := Lib.hid (QrPost.no (B := 0) (E := 1) (tuW_low B2.out (.int .i64 0) (.int .i64 0) (.slice none 0 0) (.slice none 0 0)))
      go_wp2_with fail
      refine bodyPost_ret (v := .tuple #[.agg #[.int .i64 0, .int .i64 0, .slice none 0 0, .slice none 0 0], .int .i64 1]) (by simp [results, Tryz.results78, go_sem, z1, z2, z3, z4]) rfl ?_
      rw [HE.out]
      exact HF.out
    | true =>
      have HE := Lib.hid (HYES.out (by first | trivial | rfl) (by first | trivial | rfl))
      have HC := Lib.hid (HSB.out w2 B2.out (by first | trivial | rfl))
      clear HYES HNO HSB
      generalize qRp P Q T = A at HE HC
      obtain ⟨U, E⟩ := A
      go_wp2_with fail
      refine HC.out.mono ?_
      rintro e w4 ⟨y1, m1, y2, m2, rfl, t0, t1, hb4⟩
      have B4 := Lib.hid (tuW_step B2.out hb4)
      have hz2 := (tuW_at B2.out).2.2.2
      have hg := set4_only (w := w4) (w.heap.size + 1) (.int .i64 U.k) (.int .i64 U.n) (.slice y1 U.ls.len m1) (.slice y2 U.ks.len m2)
      have hgz := hg.size
      have HF : Hid (QrPost 0 (U, E) w (.returned (.tuple #[.agg #[.int .i64 U.k, .int .i64 U.n, .slice y1 U.ls.len m1, .slice y2 U.ks.len m2], .int .i64 E])) ((((w4.setCell ⟨w.heap.size + 1, 0, none⟩ (.int .i64 U.k)).setCell ⟨w.heap.size + 1, 1, none⟩ (.int .i64 U.n)).setCell ⟨w.heap.size + 1, 2, none⟩ (.slice y1 U.ls.len m1)).setCell ⟨w.heap.size + 1, 3, none⟩ (.slice y2 U.ks.len m2))) := Lib.hid
        ⟨y1, m1, y2, m2, rfl, (t0.keep (fun b hb => Only.block hg (by omega) (by omega))).weak (fun b hb => by omega), t1.turn (fun b hb => Only.block hg (by omega) (by omega)) (fun b hb => by omega), tuW_low B4.out _ _ _ _⟩
      clear hb4 x1 x2 x3 x4 z1 z2 z3 z4 zf zl t0 t1 hg hgz hz2
      obtain ⟨⟨x1, x2, x3, x4⟩, ⟨z1, z2, z3, z4⟩, zf, zl⟩ := tuW_cells B4.out
      go_wp2_with fail
      refine bodyPost_ret (v := .tuple #[.agg #[.int .i64 U.k, .int .i64 U.n, .slice y1 U.ls.len m1, .slice y2 U.ks.len m2], .int .i64 E]) (by simp [results, Tryz.results78, go_sem, z1, z2, z3, z4]) rfl ?_
      rw [HE.out]
      exact HF.out
end Go.Proofs.YtnfhpombnbpdcaaGreat
