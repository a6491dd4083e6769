/- Tcop. No condition but those that stand in each statement. -/
import Derived.Test.YtnfhpombnbpdcaaGreatZQ15
import Derived.Test.YtnfhpombnbpdcaaGreatZQ26
import Derived.Test.YtnfhpombnbpdcaaGreatZQ28
namespace Go.Proofs.YtnfhpombnbpdcaaGreat
open Go.RowKit
set_option maxRecDepth 100000 in
set_option maxHeartbeats 8000000 in
theorem tcop_any (s : Nat) : ∀ (f : Ft), f.size < s → f.size ≤ 1000 → f.lvsz 1000 → ∀ (k n : Int) (ls : Fo) (la ka : Option Addr) (lc kc B : Nat) (w : World), ls.size ≤ 1000 → SlIn w (· < B) ls la lc → TlIn w (· < B) f ka kc → B ≤ w.heap.size →
    Calls Tryz.prog 59 #[.agg #[.int .i64 k, .int .i64 n, .slice la ls.len lc, .slice ka f.len kc]] w (TmPost 0 ⟨k, n, ls, f⟩ w) := by
  induction s with
  | zero => intro f hs; omega
  | succ s ih =>
    intro f hs hsz hlv k n ls la ka lc kc B w hlz hls hsl hB
    have IH := Lib.hid ih
    clear ih
    have hlen := hsl.len
    have hlen2 := hls.len
    have HSL := Lib.hid hsl
    have HLS := Lib.hid hls
    have HS := Lib.hid (TcR.start (w := w) (k := k) (n := n) (.cells #[.int .i64 k, .int .i64 n, .slice la ls.len lc, .slice ka f.len kc] 30) (Nat.zero_le _))
    clear hsl hls
    go_enter Tryz.func59, Tryz.ntmps59
    go_wp2_with fail
    go_loopw [16] (fun jv wr => ∃ (j : Nat) (G rest : Fo) (v : Value), jv = .int .i64 j ∧ Hid (ls = G.app rest) ∧ Hid (G.len = j) ∧ Hid (TcR w (.cells #[.int .i64 k, .int .i64 n, .slice la ls.len lc, .slice ka f.len kc] 30) (w.heap.size + 1 + 1) 0 k n G v wr)) (fun jv _ => ls.len - (intOf jv).toNat)
    case atStart => exact ⟨0, .nil, ls, _, rfl, Lib.hid rfl, Lib.hid rfl, HS⟩
    case round =>
      obtain ⟨j, G, rest, v, rfl, hf, hj, hR⟩ := hrel
      obtain ⟨hbox, q2, qz, hob, hwr⟩ := hR.out.facts
      cases rest with
      | nil =>
        have hjl : ¬ (j : Int) < (ls.len : Int) := by rw [hf.out, foApp_nil2, hj.out]; omega
        have dj : decide ((j : Int) < (ls.len : Int)) = false := by simpa using hjl
        obtain ⟨x, c, rfl, hK⟩ := hR.out.kids
        have HG : Hid (ls = G) := Lib.hid (by rw [hf.out, foApp_nil2])
        have HK := Lib.hid hK
        have c3 := (cells4 hbox).2.2.2
        have W1 : ∃ W, W = wr := ⟨_, rfl⟩
        obtain ⟨W, hW⟩ := W1
        rw [← hW] at c3 HK q2 qz hob hwr hbox ⊢
        clear hK hR hf hj hW hbox
        go_wp2_with fail
        go_loopw [31] (fun jv wr => ∃ (j : Nat) (H rest : Ft) (v : Value), jv = .int .i64 j ∧ Hid (f = H.app rest) ∧ Hid (H.len = j) ∧ Hid (TcK w (.cells #[.int .i64 k, .int .i64 n, .slice la ls.len lc, .slice ka f.len kc] 30) (w.heap.size + 1 + 1) W.heap.size 0 k n G x c H v wr)) (fun jv _ => f.len - (intOf jv).toNat)
        case atStart => exact ⟨0, .nil, f, _, rfl, Lib.hid rfl, Lib.hid rfl, HK⟩
        case round =>
          clear c3 q2 qz hob hwr
          obtain ⟨j, H, rest, v, rfl, hf, hj, hR⟩ := hrel
          obtain ⟨hbox, ⟨g0, g1, g2, g3, gz⟩, ⟨q0, q1, q2, q3, qz⟩, hob, hwr⟩ := hR.out.facts
          cases rest with
          | nil =>
            have hjl' : ¬ (j : Int) < (f.len : Int) := by rw [hf.out, Ft.app_nil, hj.out]; omega
            have dj' : decide ((j : Int) < (f.len : Int)) = false := by simpa using hjl'
            obtain ⟨y, d, rfl, hE⟩ := hR.out.done
            have HE := Lib.hid hE
            have HF : Hid (f = H) := Lib.hid (by rw [hf.out, Ft.app_nil])
            clear hE hR hf hbox
            go_wp2_with fail
            refine bodyPost_ret (v := .agg #[.int .i64 k, .int .i64 n, .slice x G.len c, .slice y H.len d]) (by simp [results, Tryz.results59, go_sem, g0, g1, g2, g3]) rfl ?_
            rw [HF.out, HG.out]
            exact HE.out
          | cons k' n' ls' ks r' =>
            have hjn : j < f.len := by rw [hf.out, Ft.app_len, hj.out]; simp [Ft.len]
            have hjl2 : (j : Int) < (f.len : Int) := by omega
            obtain ⟨bq, o, rfl, hbB, hf0⟩ := HSL.out.some (by omega)
            have hfa : FtIn w (· < B) (.cons k' n' ls' ks r') bq (o + j * 4) := by
              have h1 := hf0
              rw [hf.out] at h1
              rw [← hj.out]
              exact FtIn.behind H _ bq o h1
            obtain ⟨e0, e1, ⟨la', lc', e2, hls'⟩, ⟨ka', kc', e3, hsl'⟩, _⟩ := (hfa.below (hwr.mono hB) _ _ _ hbB).first
            have hfs : f.size = H.size + (ks.size + r'.size + 1) := by rw [hf.out, Ft.app_size]; rfl
            have hks : ks.size < s := by omega
            have hlv' : ls'.size ≤ 1000 ∧ ks.lvsz 1000 := by
              have h1 := hlv
              rw [hf.out, Ft.lvsz_app] at h1
              exact ⟨h1.2.1, h1.2.2.1⟩
            have hBr : B ≤ wr.heap.size := Nat.le_trans hB hwr.size
            have hbk : Below wr.heap.size wr (wr.alloc (.cells #[.int .i64 k', .int .i64 n', .slice la' ls'.len lc', .slice ka' ks.len kc'] 30)).drew := ((Below.refl _ _).alloc (Nat.le_refl _) _).drew
            have HC : Hid (Calls Tryz.prog 59 #[.agg #[.int .i64 k', .int .i64 n', .slice la' ls'.len lc', .slice ka' ks.len kc']] (wr.alloc (.cells #[.int .i64 k', .int .i64 n', .slice la' ls'.len lc', .slice ka' ks.len kc'] 30)).drew (TmPost 0 ⟨k', n', ls', ks⟩ (wr.alloc (.cells #[.int .i64 k', .int .i64 n', .slice la' ls'.len lc', .slice ka' ks.len kc'] 30)).drew)) :=
              Lib.hid (IH.out ks hks (by omega) hlv'.2 k' n' ls' la' ka' lc' kc' B _ hlv'.1 (hls'.below (hbk.mono hBr)) (hsl'.below (hbk.mono hBr)) (Nat.le_trans hBr hbk.size))
            have HAP : Hid (∀ (e : Ending) (w2 : World), TmPost 0 ⟨k', n', ls', ks⟩ (wr.alloc (.cells #[.int .i64 k', .int .i64 n', .slice la' ls'.len lc', .slice ka' ks.len kc'] 30)).drew e w2 → ∃ (x1 : Option Addr) (y1 : Nat) (x2 : Option Addr) (y2 : Nat), e = .returned (.agg #[.int .i64 k', .int .i64 n', .slice x1 ls'.len y1, .slice x2 ks.len y2]) ∧
                w2.cell? ⟨w.heap.size + 1 + 1, 3, none⟩ = some v ∧ w.heap.size + 1 + 1 < w2.heap.size ∧ (w2.alloc (.cells #[.int .i64 k', .int .i64 n', .slice x1 ls'.len y1, .slice x2 ks.len y2] 30)).cell? ⟨w.heap.size + 1 + 1, 3, none⟩ = some v ∧
                ∃ g' cap' w3, Hid ((Builtin.append_ #[28, 28] 28 #[v, .slice (some ⟨w2.heap.size, 0, none⟩) 1 1]).run Tryz.prog (w2.alloc (.cells #[.int .i64 k', .int .i64 n', .slice x1 ls'.len y1, .slice x2 ks.len y2] 30)) = .ok (.slice (some ⟨g', 0, none⟩) (j + 1) cap') w3) ∧
                  w3.cell? ⟨w.heap.size + 1 + 1, 3, none⟩ = some v ∧ (∀ o, w3.frozen? ⟨w.heap.size + 1 + 1, o, none⟩ = false) ∧ Hid (TcK w (.cells #[.int .i64 k, .int .i64 n, .slice la ls.len lc, .slice (some ⟨bq, o, none⟩) f.len kc] 30) (w.heap.size + 1 + 1) W.heap.size 0 k n G x c (H.app (.cons k' n' ls' ks .nil)) (.slice (some ⟨g', 0, none⟩) (j + 1) cap') (w3.setCell ⟨w.heap.size + 1 + 1, 3, none⟩ (.slice (some ⟨g', 0, none⟩) (j + 1) cap')))) := Lib.hid (by
              rintro e w2 ⟨x1, y1, x2, y2, rfl, t0, t1, t2⟩
              have hG1 : H.len ≤ 1000 := by have h1 := Ft.len_le_size H; omega
              have hP : ∀ q, (q < 0 ∨ (wr.alloc (.cells #[.int .i64 k', .int .i64 n', .slice la' ls'.len lc', .slice ka' ks.len kc'] 30)).drew.heap.size ≤ q) ∧ q < w2.heap.size → (q < 0 ∨ wr.heap.size ≤ q) ∧ q < w2.heap.size := fun q hq => ⟨by have h1 := hq.1; simp at h1; omega, hq.2⟩
              have t4 : Below wr.heap.size wr w2 := Below.trans (((Below.refl _ _).alloc (Nat.le_refl _) _).drew) (t2.mono (by simp))
              obtain ⟨L2, hlb2, g', cap', w3, hrun, L3, Z3, hN⟩ := TcK.next (T := ⟨k', n', ls', ks⟩) hR.out hG1 (t0.weak hP) (t1.weak hP) t4
              rw [hj.out] at hrun hN
              exact ⟨x1, y1, x2, y2, rfl, L2, hlb2, (World.cell?_of_block (w := w2) (a := ⟨w.heap.size + 1 + 1, 3, none⟩) (heap_old w2 _ hlb2)).trans L2, g', cap', w3, Lib.hid hrun, L3, Z3, Lib.hid hN⟩)
            have HSN : Hid (f = (H.app (.cons k' n' ls' ks .nil)).app r') := Lib.hid (by rw [hf.out, Ft.app_assoc]; rfl)
            have HJ := Lib.hid hj.out
            clear hf hR hfa hf0 g0 g1 g2 g3 gz q0 q1 q2 qz hbk hls' hsl' hlv' hfs hbox
            go_wp2_with fail
            go_region_law (first
              | (refine step_append (by rfl) _ _ _ (by rfl) (by rfl) (by rfl) HRUN.out ?_)
              | (go_simp; go_at_call 59; refine HC.out.mono ?_; intro e w2 hP; obtain ⟨x1, y1, x2, y2, rfl, L2, hlb2, L2a, g', cap', w3, HRUN, L3, Z3, HN⟩ := HAP.out e w2 hP; clear hP))
            all_goals
              go_wp2_with fail
              go_roundw
              case rel => exact ⟨j + 1, _, r', _, by go_num, HSN, Lib.hid (by rw [Ft.app_len, HJ.out]; rfl), HN⟩
              case measure => simp [intOf]; omega
      | cons k' n' ks r' =>
        have hjn : j < ls.len := by rw [hf.out, Fo.app_len, hj.out]; simp [Fo.len]
        have hjl : (j : Int) < (ls.len : Int) := by omega
        obtain ⟨b, o, rfl, hbB, hf0⟩ := HLS.out.some (by omega)
        have hfa : FoIn w (· < B) (.cons k' n' ks r') b (o + j * 3) := by
          have h1 := hf0
          rw [hf.out] at h1
          rw [← hj.out]
          exact FoIn.behind2 G _ b o h1
        obtain ⟨e0, e1, ⟨a', cap', e2, hsl'⟩, _⟩ := (hfa.below (hwr.mono hB) _ _ _ hbB).first
        have hfs : ls.size = G.size + (ks.size + r'.size + 1) := by rw [hf.out, Fo.app_size]; rfl
        have hBr : B ≤ wr.heap.size := Nat.le_trans hB hwr.size
        have hbk : Below wr.heap.size wr (wr.alloc (.cells #[.int .i64 k', .int .i64 n', .slice a' ks.len cap'] 45)).drew := ((Below.refl _ _).alloc (Nat.le_refl _) _).drew
        have HC : Hid (Calls Tryz.prog 80 #[.agg #[.int .i64 k', .int .i64 n', .slice a' ks.len cap']] (wr.alloc (.cells #[.int .i64 k', .int .i64 n', .slice a' ks.len cap'] 45)).drew (RpPost 0 (.cons k' n' ks .nil) (wr.alloc (.cells #[.int .i64 k', .int .i64 n', .slice a' ks.len cap'] 45)).drew)) :=
          Lib.hid (tcopl_any (ks.size + 1) ks (Nat.lt_succ_self _) (by omega) k' n' a' cap' B _ (hsl'.below (hbk.mono hBr)) (Nat.le_trans hBr hbk.size))
        have HAP : Hid (∀ (e : Ending) (w2 : World), RpPost 0 (.cons k' n' ks .nil) (wr.alloc (.cells #[.int .i64 k', .int .i64 n', .slice a' ks.len cap'] 45)).drew e w2 → ∃ (x2 : Option Addr) (c2 : Nat), e = .returned (.agg #[.int .i64 k', .int .i64 n', .slice x2 ks.len c2]) ∧
            w2.cell? ⟨w.heap.size + 1 + 1, 2, none⟩ = some v ∧ w.heap.size + 1 + 1 < w2.heap.size ∧ (w2.alloc (.cells #[.int .i64 k', .int .i64 n', .slice x2 ks.len c2] 45)).cell? ⟨w.heap.size + 1 + 1, 2, none⟩ = some v ∧
            ∃ g' cap' w3, Hid ((Builtin.append_ #[27, 27] 27 #[v, .slice (some ⟨w2.heap.size, 0, none⟩) 1 1]).run Tryz.prog (w2.alloc (.cells #[.int .i64 k', .int .i64 n', .slice x2 ks.len c2] 45)) = .ok (.slice (some ⟨g', 0, none⟩) (j + 1) cap') w3) ∧
              w3.cell? ⟨w.heap.size + 1 + 1, 2, none⟩ = some v ∧ (∀ o, w3.frozen? ⟨w.heap.size + 1 + 1, o, none⟩ = false) ∧ Hid (TcR w (.cells #[.int .i64 k, .int .i64 n, .slice (some ⟨b, o, none⟩) ls.len lc, .slice ka f.len kc] 30) (w.heap.size + 1 + 1) 0 k n (G.app (.cons k' n' ks .nil)) (.slice (some ⟨g', 0, none⟩) (j + 1) cap') (w3.setCell ⟨w.heap.size + 1 + 1, 2, none⟩ (.slice (some ⟨g', 0, none⟩) (j + 1) cap')))) := Lib.hid (by
          rintro e w2 ⟨k2, n2, F2, x2, c2, hT, rfl, t1, t2⟩
          obtain ⟨rfl, rfl, rfl⟩ := one_eq2 hT
          have hG1 : G.len ≤ 1000 := by have h1 := Fo.len_le_size G; omega
          have t3 : SlIn w2 (fun b => (b < 0 ∨ wr.heap.size ≤ b) ∧ b < w2.heap.size) ks x2 c2 := t1.weak (fun b hb => ⟨by have h1 := hb.1; simp at h1; omega, hb.2⟩)
          have t4 : Below wr.heap.size wr w2 := Below.trans (((Below.refl _ _).alloc (Nat.le_refl _) _).drew) (t2.mono (by simp))
          obtain ⟨L2, hlb2, g', cap', w3, hrun, L3, Z3, hN⟩ := TcR.next (k' := k') (n' := n') hR.out hG1 t3 t4
          rw [hj.out] at hrun hN
          exact ⟨x2, c2, rfl, L2, hlb2, (World.cell?_of_block (w := w2) (a := ⟨w.heap.size + 1 + 1, 2, none⟩) (heap_old w2 _ hlb2)).trans L2, g', cap', w3, Lib.hid hrun, L3, Z3, Lib.hid hN⟩)
        have HSN : Hid (ls = (G.app (.cons k' n' ks .nil)).app r') := Lib.hid (by rw [hf.out, foApp_assoc2]; rfl)
        have HJ := Lib.hid hj.out
        clear hf hR hfa hf0 qz hbk hsl' hfs hbox
        go_wp2_with fail
        go_region_law (first
          | (refine step_append (by rfl) _ _ _ (by rfl) (by rfl) (by rfl) HRUN.out ?_)
          | (go_simp; go_at_call 80; refine HC.out.mono ?_; intro e w2 hP; obtain ⟨x2, c2, rfl, L2, hlb2, L2a, g', cap', w3, HRUN, L3, Z3, HN⟩ := HAP.out e w2 hP; clear hP))
        all_goals
          go_wp2_with fail
          go_roundw
          case rel => exact ⟨j + 1, _, r', _, by go_num, HSN, Lib.hid (by rw [Fo.app_len, HJ.out]; rfl), HN⟩
          case measure => simp [intOf]; omega
end Go.Proofs.YtnfhpombnbpdcaaGreat
