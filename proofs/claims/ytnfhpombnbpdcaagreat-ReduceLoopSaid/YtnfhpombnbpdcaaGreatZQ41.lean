/- Ypush. No condition but those that stand in each statement. -/
import Derived.Deep.RegionHeld3
import Derived.Deep.DeepCutAuto
import Derived.Deep.RegionLaw
import Derived.Test.YtnfhpombnbpdcaaGreatZQ37
import Derived.Test.YtnfhpombnbpdcaaGreatZQ39
import Derived.Test.YtnfhpombnbpdcaaGreatZQ0
namespace Go.Proofs.YtnfhpombnbpdcaaGreat
open Go.RowKit
set_option maxRecDepth 100000 in
set_option maxHeartbeats 4000000 in
theorem yPush_any (B lo MB : Nat) (ea : Option Addr) (len cap : Nat) (T : Tm) (G : Ft) (n : Nat) (w : World) (h : Mi B lo MB ea len cap T G n w) (hk : T.ks.len = 2) (hG : G.len ≤ 8000000) :
    Calls Tryz.prog 57 #[.pointer (some ⟨MB, 0, none⟩)] w fun e w' => e = .returned (.tuple #[.bool true, .int .i64 0]) ∧ AcP MB lo w w' ∧ Mi B lo MB ea len cap (T.kid 0) (G.app (T.kid 1).one) n w' := by
  obtain ⟨la, lc, ka, kc, av, h⟩ := h
  obtain ⟨⟨m0, m1, m2, m3, m4, m5, m6⟩, mf, ml⟩ := h.cells
  obtain ⟨b, o, la2, lc2, ka2, kc2, rfl, hb2, e0, e1, e2, e3, s2, s3⟩ := tl_kid (i := 0) h.2.2.1 (by omega)
  obtain ⟨b', o', la3, lc3, ka3, kc3, hbo, hb3, f0, f1, f2, f3, r2, r3⟩ := tl_kid (i := 1) h.2.2.1 (by omega)
  obtain ⟨rfl, rfl⟩ : b = b' ∧ o = o' := by injection hbo with h; injection h with h1 h2; exact ⟨h1, h2⟩
  rw [hk] at m4
  change w.cell? ⟨b, o, none⟩ = _ at e0
  change w.cell? ⟨b, o + 1, none⟩ = _ at e1
  change w.cell? ⟨b, o + 2, none⟩ = _ at e2
  change w.cell? ⟨b, o + 3, none⟩ = _ at e3
  change w.cell? ⟨b, o + 4, none⟩ = _ at f0
  change w.cell? ⟨b, o + 4 + 1, none⟩ = _ at f1
  change w.cell? ⟨b, o + 4 + 2, none⟩ = _ at f2
  change w.cell? ⟨b, o + 4 + 3, none⟩ = _ at f3
  have al : ∀ (p : Addr) (v : Value) (os : Obj), w.cell? p = some v → (w.alloc os).cell? p = some v := fun p v os h => (((Below.refl w.heap.size w).alloc (Nat.le_refl _) os).cell (World.block_lt_of_cell? w p h)).trans h
  have al2 : ∀ (p : Addr) (v : Value) (os os' : Obj), w.cell? p = some v → ((w.alloc os).alloc os').cell? p = some v := fun p v os os' h => ((((Below.refl w.heap.size w).alloc (Nat.le_refl _) os).alloc (by simp) os').cell (World.block_lt_of_cell? w p h)).trans h
  change SlIn w (Mx B lo w av) (T.kid 0).ls la2 lc2 at s2
  change TlIn w (Mx B lo w av) (T.kid 0).ks ka2 kc2 at s3
  change SlIn w (Mx B lo w av) (T.kid 1).ls la3 lc3 at r2
  change TlIn w (Mx B lo w av) (T.kid 1).ks ka3 kc3 at r3
  change w.cell? _ = some (.int .i64 (T.kid 0).k) at e0
  change w.cell? _ = some (.int .i64 (T.kid 0).n) at e1
  change w.cell? _ = some (.slice la2 (T.kid 0).ls.len lc2) at e2
  change w.cell? _ = some (.slice ka2 (T.kid 0).ks.len kc2) at e3
  change w.cell? _ = some (.int .i64 (T.kid 1).k) at f0
  change w.cell? _ = some (.int .i64 (T.kid 1).n) at f1
  change w.cell? _ = some (.slice la3 (T.kid 1).ls.len lc3) at f2
  change w.cell? _ = some (.slice ka3 (T.kid 1).ks.len kc3) at f3
  generalize T.kid 0 = F at e0 e1 e2 e3 s2 s3 ⊢
  generalize T.kid 1 = X at f0 f1 f2 f3 r2 r3 ⊢
  have HST : Hid (∀ W, Below w.heap.size w W → ∃ g' cap' w3, Hid ((Builtin.append_ #[28, 28] 28 #[av, .slice (some ⟨W.heap.size, 0, none⟩) 1 1]).run Tryz.prog (W.alloc (.cells #[.int .i64 X.k, .int .i64 X.n, .slice la3 X.ls.len lc3, .slice ka3 X.ks.len kc3] 30)) = .ok (.slice (some ⟨g', 0, none⟩) (G.len + 1) cap') w3) ∧
      (∀ o, w3.frozen? ⟨MB, o, none⟩ = false) ∧ MB < w3.heap.size ∧ ((∀ p, w.heap.size ≤ p → p < W.heap.size → w3.heap[p]? = W.heap[p]? ∧ ((((w3.setCell ⟨MB, 1, none⟩ (.int .i64 F.k)).setCell ⟨MB, 2, none⟩ (.int .i64 F.n)).setCell ⟨MB, 3, none⟩ (.slice la2 F.ls.len lc2)).setCell ⟨MB, 4, none⟩ (.slice ka2 F.ks.len kc2)).heap[p]? = W.heap[p]?) ∧ (w3.cell? ⟨MB, 1, none⟩ = some (.int .i64 T.k) ∧ w3.cell? ⟨MB, 2, none⟩ = some (.int .i64 T.n) ∧ w3.cell? ⟨MB, 3, none⟩ = some (.slice la T.ls.len lc) ∧ w3.cell? ⟨MB, 4, none⟩ = some (.slice (some ⟨b, o, none⟩) T.ks.len kc) ∧ w3.cell? ⟨MB, 5, none⟩ = some av) ∧ ((((w3.setCell ⟨MB, 1, none⟩ (.int .i64 F.k)).setCell ⟨MB, 2, none⟩ (.int .i64 F.n)).setCell ⟨MB, 3, none⟩ (.slice la2 F.ls.len lc2)).setCell ⟨MB, 4, none⟩ (.slice ka2 F.ks.len kc2)).cell? ⟨MB, 5, none⟩ = some av) ∧
      Hid (MiAt B lo MB ea len cap F (G.app X.one) n (((((w3.setCell ⟨MB, 1, none⟩ (.int .i64 F.k)).setCell ⟨MB, 2, none⟩ (.int .i64 F.n)).setCell ⟨MB, 3, none⟩ (.slice la2 F.ls.len lc2)).setCell ⟨MB, 4, none⟩ (.slice ka2 F.ks.len kc2)).setCell ⟨MB, 5, none⟩ (.slice (some ⟨g', 0, none⟩) (G.len + 1) cap')) la2 lc2 ka2 kc2 (.slice (some ⟨g', 0, none⟩) (G.len + 1) cap') ∧
      AcP MB lo w (((((w3.setCell ⟨MB, 1, none⟩ (.int .i64 F.k)).setCell ⟨MB, 2, none⟩ (.int .i64 F.n)).setCell ⟨MB, 3, none⟩ (.slice la2 F.ls.len lc2)).setCell ⟨MB, 4, none⟩ (.slice ka2 F.ks.len kc2)).setCell ⟨MB, 5, none⟩ (.slice (some ⟨g', 0, none⟩) (G.len + 1) cap')))) := Lib.hid (fun W hb => by
    obtain ⟨g', cap', w3, h1, h2, h3, h4, h5, h6⟩ := h.push hb hG F X s2 s3 r2 r3
    exact ⟨g', cap', w3, Lib.hid h1, h2, h3, ⟨h4.1, ⟨cell_at h4.2.1 1, cell_at h4.2.1 2, cell_at h4.2.1 3, cell_at h4.2.1 4, cell_at h4.2.1 5⟩, h4.2.2⟩, Lib.hid ⟨h5, h6⟩⟩)
  have HMC : Hid (∀ W, Below w.heap.size w W → W.cell? ⟨MB, 5, none⟩ = some av ∧ (∀ o, W.frozen? ⟨MB, o, none⟩ = false) ∧ MB < W.heap.size) := Lib.hid (fun W hb => by
    obtain ⟨⟨_, _, _, _, _, y5, _⟩, yf, yl⟩ := (h.later hb).cells
    exact ⟨y5, yf, yl⟩)
  have m4a := fun cs => al _ _ (.cells cs 30) m4
  have m4b := fun cs cs' => al2 _ _ (.cells cs 30) (.cells cs' 30) m4
  have m5a := fun cs => al _ _ (.cells cs 30) m5
  have m5b := fun cs cs' => al2 _ _ (.cells cs 30) (.cells cs' 30) m5
  have e0a := fun cs => al _ _ (.cells cs 30) e0
  have e0b := fun cs cs' => al2 _ _ (.cells cs 30) (.cells cs' 30) e0
  have e1a := fun cs => al _ _ (.cells cs 30) e1
  have e1b := fun cs cs' => al2 _ _ (.cells cs 30) (.cells cs' 30) e1
  have e2a := fun cs => al _ _ (.cells cs 30) e2
  have e2b := fun cs cs' => al2 _ _ (.cells cs 30) (.cells cs' 30) e2
  have e3a := fun cs => al _ _ (.cells cs 30) e3
  have e3b := fun cs cs' => al2 _ _ (.cells cs 30) (.cells cs' 30) e3
  have f0a := fun cs => al _ _ (.cells cs 30) f0
  have f0b := fun cs cs' => al2 _ _ (.cells cs 30) (.cells cs' 30) f0
  have f1a := fun cs => al _ _ (.cells cs 30) f1
  have f1b := fun cs cs' => al2 _ _ (.cells cs 30) (.cells cs' 30) f1
  have f2a := fun cs => al _ _ (.cells cs 30) f2
  have f2b := fun cs cs' => al2 _ _ (.cells cs 30) (.cells cs' 30) f2
  have f3a := fun cs => al _ _ (.cells cs 30) f3
  have f3b := fun cs cs' => al2 _ _ (.cells cs 30) (.cells cs' 30) f3
  clear al al2 h hb2 hb3 hbo s2 s3 r2 r3
  go_enter Tryz.func57, Tryz.ntmps57
  go_upto_region 1 with fail
  go_region
  case _ =>
    obtain ⟨W2, hW2⟩ : ∃ W2, W2 = ((w.alloc (.cells #[.int .i64 F.k, .int .i64 F.n, .slice la2 F.ls.len lc2, .slice ka2 F.ks.len kc2] 30)).alloc (.cells #[.int .i64 X.k, .int .i64 X.n, .slice la3 X.ls.len lc3, .slice ka3 X.ks.len kc3] 30)).drew := ⟨_, rfl⟩
    have hb : Below w.heap.size w W2 := by rw [hW2]; exact (((Below.refl _ _).alloc (Nat.le_refl _) _).alloc (by simp) _).drew
    have hF : W2.heap[w.heap.size]? = some (.cells #[.int .i64 F.k, .int .i64 F.n, .slice la2 F.ls.len lc2, .slice ka2 F.ks.len kc2] 30 (0, 0)) := by rw [hW2]; exact (heap_old _ _ (by simp)).trans (heap_new _ _)
    have hX : W2.heap[w.heap.size + 1]? = some (.cells #[.int .i64 X.k, .int .i64 X.n, .slice la3 X.ls.len lc3, .slice ka3 X.ks.len kc3] 30 (0, 0)) := by rw [hW2]; exact heap_second _ _ _
    rw [← hW2]
    clear hW2
    obtain ⟨P1, hP1⟩ : ∃ P, P = w.heap.size := ⟨_, rfl⟩
    obtain ⟨P2, hP2⟩ : ∃ P, P = w.heap.size + 1 := ⟨_, rfl⟩
    rw [← hP1] at hF
    rw [← hP2] at hX
    rw [← hP2, ← hP1]
    have q1 : w.heap.size ≤ P1 := by omega
    have q2 : w.heap.size ≤ P2 := by omega
    clear hP1 hP2
    have hlF := lt_of_block hF
    have hlX := lt_of_block hX
    obtain ⟨g', cap', w3, HRUN, yf, yl, ⟨hsm, ⟨n1, n2, n3, n4, hc5⟩, hc5'⟩, HN⟩ := HST.out W2.drew hb.drew
    have hS2 : (fun (w' : World) => (w'.cell? ⟨P1, 0, none⟩ = some (.int .i64 F.k) ∧ w'.cell? ⟨P1, 1, none⟩ = some (.int .i64 F.n) ∧ w'.cell? ⟨P1, 2, none⟩ = some (.slice la2 F.ls.len lc2) ∧ w'.cell? ⟨P1, 3, none⟩ = some (.slice ka2 F.ks.len kc2)) ∧ (w'.cell? ⟨P2, 0, none⟩ = some (.int .i64 X.k) ∧ w'.cell? ⟨P2, 1, none⟩ = some (.int .i64 X.n) ∧ w'.cell? ⟨P2, 2, none⟩ = some (.slice la3 X.ls.len lc3) ∧ w'.cell? ⟨P2, 3, none⟩ = some (.slice ka3 X.ks.len kc3)) ∧ w'.cell? ⟨MB, 5, none⟩ = some av) W2.drew := ⟨cells4 hF, cells4 hX, (HMC.out W2 hb).1⟩
    have HSA : Hid (∀ o, (fun (w' : World) => (w'.cell? ⟨P1, 0, none⟩ = some (.int .i64 F.k) ∧ w'.cell? ⟨P1, 1, none⟩ = some (.int .i64 F.n) ∧ w'.cell? ⟨P1, 2, none⟩ = some (.slice la2 F.ls.len lc2) ∧ w'.cell? ⟨P1, 3, none⟩ = some (.slice ka2 F.ks.len kc2)) ∧ (w'.cell? ⟨P2, 0, none⟩ = some (.int .i64 X.k) ∧ w'.cell? ⟨P2, 1, none⟩ = some (.int .i64 X.n) ∧ w'.cell? ⟨P2, 2, none⟩ = some (.slice la3 X.ls.len lc3) ∧ w'.cell? ⟨P2, 3, none⟩ = some (.slice ka3 X.ks.len kc3)) ∧ w'.cell? ⟨MB, 5, none⟩ = some av) (W2.drew.alloc o)) := Lib.hid (fun o => ⟨cells4 ((heap_old W2.drew o hlF).trans hF), cells4 ((heap_old W2.drew o hlX).trans hX), (World.cell?_of_block (w := W2) (a := ⟨MB, 5, none⟩) (heap_old W2.drew o (HMC.out W2 hb).2.2)).trans (HMC.out W2 hb).1⟩)
    have HS3 : Hid ((fun (w' : World) => (w'.cell? ⟨P1, 0, none⟩ = some (.int .i64 F.k) ∧ w'.cell? ⟨P1, 1, none⟩ = some (.int .i64 F.n) ∧ w'.cell? ⟨P1, 2, none⟩ = some (.slice la2 F.ls.len lc2) ∧ w'.cell? ⟨P1, 3, none⟩ = some (.slice ka2 F.ks.len kc2)) ∧ (w'.cell? ⟨P2, 0, none⟩ = some (.int .i64 X.k) ∧ w'.cell? ⟨P2, 1, none⟩ = some (.int .i64 X.n) ∧ w'.cell? ⟨P2, 2, none⟩ = some (.slice la3 X.ls.len lc3) ∧ w'.cell? ⟨P2, 3, none⟩ = some (.slice ka3 X.ks.len kc3)) ∧ w'.cell? ⟨MB, 5, none⟩ = some av) w3) := Lib.hid ⟨cells4 ((hsm _ (by omega) hlF).1.trans hF), cells4 ((hsm _ (by omega) hlX).1.trans hX), hc5⟩
    have HS4 : Hid ((fun (w' : World) => (w'.cell? ⟨P1, 0, none⟩ = some (.int .i64 F.k) ∧ w'.cell? ⟨P1, 1, none⟩ = some (.int .i64 F.n) ∧ w'.cell? ⟨P1, 2, none⟩ = some (.slice la2 F.ls.len lc2) ∧ w'.cell? ⟨P1, 3, none⟩ = some (.slice ka2 F.ks.len kc2)) ∧ (w'.cell? ⟨P2, 0, none⟩ = some (.int .i64 X.k) ∧ w'.cell? ⟨P2, 1, none⟩ = some (.int .i64 X.n) ∧ w'.cell? ⟨P2, 2, none⟩ = some (.slice la3 X.ls.len lc3) ∧ w'.cell? ⟨P2, 3, none⟩ = some (.slice ka3 X.ks.len kc3)) ∧ w'.cell? ⟨MB, 5, none⟩ = some av) ((((w3.setCell ⟨MB, 1, none⟩ (.int .i64 F.k)).setCell ⟨MB, 2, none⟩ (.int .i64 F.n)).setCell ⟨MB, 3, none⟩ (.slice la2 F.ls.len lc2)).setCell ⟨MB, 4, none⟩ (.slice ka2 F.ks.len kc2))) := Lib.hid ⟨cells4 ((hsm _ (by omega) hlF).2.trans hF), cells4 ((hsm _ (by omega) hlX).2.trans hX), hc5'⟩
    have HS2 := Lib.hid hS2
    change Hid ((Builtin.append_ #[28, 28] 28 #[av, .slice (some ⟨W2.heap.size, 0, none⟩) 1 1]).run Tryz.prog (W2.drew.alloc (.cells #[.int .i64 X.k, .int .i64 X.n, .slice la3 X.ls.len lc3, .slice ka3 X.ks.len kc3] 30)) = _) at HRUN
    clear hb hF hX hsm hc5' hS2 q1 q2 HST HMC hlF hlX
    go_wp2_with fail
    refine wp_region_L (fun (w' : World) => (w'.cell? ⟨P1, 0, none⟩ = some (.int .i64 F.k) ∧ w'.cell? ⟨P1, 1, none⟩ = some (.int .i64 F.n) ∧ w'.cell? ⟨P1, 2, none⟩ = some (.slice la2 F.ls.len lc2) ∧ w'.cell? ⟨P1, 3, none⟩ = some (.slice ka2 F.ks.len kc2)) ∧ (w'.cell? ⟨P2, 0, none⟩ = some (.int .i64 X.k) ∧ w'.cell? ⟨P2, 1, none⟩ = some (.int .i64 X.n) ∧ w'.cell? ⟨P2, 2, none⟩ = some (.slice la3 X.ls.len lc3) ∧ w'.cell? ⟨P2, 3, none⟩ = some (.slice ka3 X.ks.len kc3)) ∧ w'.cell? ⟨MB, 5, none⟩ = some av) 15 (by kernel_rfl) ?_
    have hH := (show (fun (w' : World) => (w'.cell? ⟨P1, 0, none⟩ = some (.int .i64 F.k) ∧ w'.cell? ⟨P1, 1, none⟩ = some (.int .i64 F.n) ∧ w'.cell? ⟨P1, 2, none⟩ = some (.slice la2 F.ls.len lc2) ∧ w'.cell? ⟨P1, 3, none⟩ = some (.slice ka2 F.ks.len kc2)) ∧ (w'.cell? ⟨P2, 0, none⟩ = some (.int .i64 X.k) ∧ w'.cell? ⟨P2, 1, none⟩ = some (.int .i64 X.n) ∧ w'.cell? ⟨P2, 2, none⟩ = some (.slice la3 X.ls.len lc3) ∧ w'.cell? ⟨P2, 3, none⟩ = some (.slice ka3 X.ks.len kc3)) ∧ w'.cell? ⟨MB, 5, none⟩ = some av) W2.drew from HS2.out)
    refine tkL 0 ?_ hH ?_ ?_
    rotate_left
    · intro w' hSw
      obtain ⟨⟨s0, s1, s2, s3⟩, ⟨t0, t1, t2, t3⟩, u0⟩ := hSw
      go_simp
      try with_reducible rfl
    refine tkL 1 ?_ hH ?_ ?_
    rotate_left
    · intro w' hSw
      obtain ⟨⟨s0, s1, s2, s3⟩, ⟨t0, t1, t2, t3⟩, u0⟩ := hSw
      go_simp
      try with_reducible rfl
    refine tkL 2 ?_ hH ?_ ?_
    rotate_left
    · intro w' hSw
      obtain ⟨⟨s0, s1, s2, s3⟩, ⟨t0, t1, t2, t3⟩, u0⟩ := hSw
      go_simp
      try with_reducible rfl
    refine tkL 3 ?_ hH ?_ ?_
    rotate_left
    · intro w' hSw
      obtain ⟨⟨s0, s1, s2, s3⟩, ⟨t0, t1, t2, t3⟩, u0⟩ := hSw
      go_simp
      try with_reducible rfl
    refine tkL 4 ?_ hH ?_ ?_
    rotate_left
    · intro w' hSw
      obtain ⟨⟨s0, s1, s2, s3⟩, ⟨t0, t1, t2, t3⟩, u0⟩ := hSw
      go_simp
      try with_reducible rfl
    refine tkL 5 ?_ hH ?_ ?_
    rotate_left
    · intro w' hSw
      obtain ⟨⟨s0, s1, s2, s3⟩, ⟨t0, t1, t2, t3⟩, u0⟩ := hSw
      go_simp
      try with_reducible rfl
    refine tkL 6 ?_ hH ?_ ?_
    rotate_left
    · intro w' hSw
      obtain ⟨⟨s0, s1, s2, s3⟩, ⟨t0, t1, t2, t3⟩, u0⟩ := hSw
      go_simp
      try with_reducible rfl
    refine tkL 7 ?_ hH ?_ ?_
    rotate_left
    · intro w' hSw
      obtain ⟨⟨s0, s1, s2, s3⟩, ⟨t0, t1, t2, t3⟩, u0⟩ := hSw
      go_simp
      try with_reducible rfl
    refine oneL 8 (fun K hK => ?_)
    go_simp
    clear hH
    have hH := HSA.out (.cells #[.int .i64 X.k, .int .i64 X.n, .slice la3 X.ls.len lc3, .slice ka3 X.ks.len kc3] 30)
    refine hK.out _ _ hH ?_
    clear hK K
    refine oneL 9 (fun K hK => ?_)
    refine step_append (by rfl) _ _ _ (by rfl) (by rfl) (by rfl) HRUN.out ?_
    clear hH
    have hH := HS3.out
    refine hK.out _ _ hH ?_
    clear hK K
    refine tkL 10 ?_ hH ?_ ?_
    rotate_left
    · intro w' hSw
      obtain ⟨⟨s0, s1, s2, s3⟩, ⟨t0, t1, t2, t3⟩, u0⟩ := hSw
      go_simp
      try with_reducible rfl
    refine tkL 11 ?_ hH ?_ ?_
    rotate_left
    · intro w' hSw
      obtain ⟨⟨s0, s1, s2, s3⟩, ⟨t0, t1, t2, t3⟩, u0⟩ := hSw
      go_simp
      try with_reducible rfl
    refine oneL 12 (fun K hK => ?_)
    go_simp
    clear hH
    have hH := HS4.out
    refine hK.out _ _ hH ?_
    clear hK K
    refine oneL 13 (fun K hK => ?_)
    go_simp
    refine hK.out _ _ hH ?_
    clear hK K
    refine tkL 14 ?_ hH ?_ ?_
    rotate_left
    · intro w' hSw
      obtain ⟨⟨s0, s1, s2, s3⟩, ⟨t0, t1, t2, t3⟩, u0⟩ := hSw
      go_simp
      try with_reducible rfl
    refine lastL (fun K hK => ?_)
    go_simp
    refine hK.out _ _ ?_
    clear hK K hH
    try simp only [Act.put, List.setIfInBounds_toArray, List.set_cons_zero, List.set_cons_succ]
    refine wpAnyL_done (by kernel_rfl) ?_ _
    go_wp2_with fail
    refine bodyPost_ret (v := .tuple #[.bool true, .int .i64 0]) (by simp [results, Tryz.results57, go_sem]) rfl ?_
    exact ⟨rfl, HN.out.2, _, _, _, _, _, HN.out.1⟩
  case _ =>
    obtain ⟨W2, hW2⟩ : ∃ W2, W2 = ((w.alloc (.cells #[.int .i64 X.k, .int .i64 X.n, .slice la3 X.ls.len lc3, .slice ka3 X.ks.len kc3] 30)).alloc (.cells #[.int .i64 F.k, .int .i64 F.n, .slice la2 F.ls.len lc2, .slice ka2 F.ks.len kc2] 30)).drew := ⟨_, rfl⟩
    have hb : Below w.heap.size w W2 := by rw [hW2]; exact (((Below.refl _ _).alloc (Nat.le_refl _) _).alloc (by simp) _).drew
    have hX : W2.heap[w.heap.size]? = some (.cells #[.int .i64 X.k, .int .i64 X.n, .slice la3 X.ls.len lc3, .slice ka3 X.ks.len kc3] 30 (0, 0)) := by rw [hW2]; exact (heap_old _ _ (by simp)).trans (heap_new _ _)
    have hF : W2.heap[w.heap.size + 1]? = some (.cells #[.int .i64 F.k, .int .i64 F.n, .slice la2 F.ls.len lc2, .slice ka2 F.ks.len kc2] 30 (0, 0)) := by rw [hW2]; exact heap_second _ _ _
    rw [← hW2]
    clear hW2
    obtain ⟨P1, hP1⟩ : ∃ P, P = w.heap.size := ⟨_, rfl⟩
    obtain ⟨P2, hP2⟩ : ∃ P, P = w.heap.size + 1 := ⟨_, rfl⟩
    rw [← hP1] at hX
    rw [← hP2] at hF
    rw [← hP2, ← hP1]
    have q1 : w.heap.size ≤ P1 := by omega
    have q2 : w.heap.size ≤ P2 := by omega
    clear hP1 hP2
    have hlF := lt_of_block hF
    have hlX := lt_of_block hX
    obtain ⟨g', cap', w3, HRUN, yf, yl, ⟨hsm, ⟨n1, n2, n3, n4, hc5⟩, hc5'⟩, HN⟩ := HST.out W2.drew hb.drew
    have hS2 : (fun (w' : World) => (w'.cell? ⟨P2, 0, none⟩ = some (.int .i64 F.k) ∧ w'.cell? ⟨P2, 1, none⟩ = some (.int .i64 F.n) ∧ w'.cell? ⟨P2, 2, none⟩ = some (.slice la2 F.ls.len lc2) ∧ w'.cell? ⟨P2, 3, none⟩ = some (.slice ka2 F.ks.len kc2)) ∧ (w'.cell? ⟨P1, 0, none⟩ = some (.int .i64 X.k) ∧ w'.cell? ⟨P1, 1, none⟩ = some (.int .i64 X.n) ∧ w'.cell? ⟨P1, 2, none⟩ = some (.slice la3 X.ls.len lc3) ∧ w'.cell? ⟨P1, 3, none⟩ = some (.slice ka3 X.ks.len kc3)) ∧ w'.cell? ⟨MB, 5, none⟩ = some av) W2.drew := ⟨cells4 hF, cells4 hX, (HMC.out W2 hb).1⟩
    have HSA : Hid (∀ o, (fun (w' : World) => (w'.cell? ⟨P2, 0, none⟩ = some (.int .i64 F.k) ∧ w'.cell? ⟨P2, 1, none⟩ = some (.int .i64 F.n) ∧ w'.cell? ⟨P2, 2, none⟩ = some (.slice la2 F.ls.len lc2) ∧ w'.cell? ⟨P2, 3, none⟩ = some (.slice ka2 F.ks.len kc2)) ∧ (w'.cell? ⟨P1, 0, none⟩ = some (.int .i64 X.k) ∧ w'.cell? ⟨P1, 1, none⟩ = some (.int .i64 X.n) ∧ w'.cell? ⟨P1, 2, none⟩ = some (.slice la3 X.ls.len lc3) ∧ w'.cell? ⟨P1, 3, none⟩ = some (.slice ka3 X.ks.len kc3)) ∧ w'.cell? ⟨MB, 5, none⟩ = some av) (W2.drew.alloc o)) := Lib.hid (fun o => ⟨cells4 ((heap_old W2.drew o hlF).trans hF), cells4 ((heap_old W2.drew o hlX).trans hX), (World.cell?_of_block (w := W2) (a := ⟨MB, 5, none⟩) (heap_old W2.drew o (HMC.out W2 hb).2.2)).trans (HMC.out W2 hb).1⟩)
    have HS3 : Hid ((fun (w' : World) => (w'.cell? ⟨P2, 0, none⟩ = some (.int .i64 F.k) ∧ w'.cell? ⟨P2, 1, none⟩ = some (.int .i64 F.n) ∧ w'.cell? ⟨P2, 2, none⟩ = some (.slice la2 F.ls.len lc2) ∧ w'.cell? ⟨P2, 3, none⟩ = some (.slice ka2 F.ks.len kc2)) ∧ (w'.cell? ⟨P1, 0, none⟩ = some (.int .i64 X.k) ∧ w'.cell? ⟨P1, 1, none⟩ = some (.int .i64 X.n) ∧ w'.cell? ⟨P1, 2, none⟩ = some (.slice la3 X.ls.len lc3) ∧ w'.cell? ⟨P1, 3, none⟩ = some (.slice ka3 X.ks.len kc3)) ∧ w'.cell? ⟨MB, 5, none⟩ = some av) w3) := Lib.hid ⟨cells4 ((hsm _ (by omega) hlF).1.trans hF), cells4 ((hsm _ (by omega) hlX).1.trans hX), hc5⟩
    have HS4 : Hid ((fun (w' : World) => (w'.cell? ⟨P2, 0, none⟩ = some (.int .i64 F.k) ∧ w'.cell? ⟨P2, 1, none⟩ = some (.int .i64 F.n) ∧ w'.cell? ⟨P2, 2, none⟩ = some (.slice la2 F.ls.len lc2) ∧ w'.cell? ⟨P2, 3, none⟩ = some (.slice ka2 F.ks.len kc2)) ∧ (w'.cell? ⟨P1, 0, none⟩ = some (.int .i64 X.k) ∧ w'.cell? ⟨P1, 1, none⟩ = some (.int .i64 X.n) ∧ w'.cell? ⟨P1, 2, none⟩ = some (.slice la3 X.ls.len lc3) ∧ w'.cell? ⟨P1, 3, none⟩ = some (.slice ka3 X.ks.len kc3)) ∧ w'.cell? ⟨MB, 5, none⟩ = some av) ((((w3.setCell ⟨MB, 1, none⟩ (.int .i64 F.k)).setCell ⟨MB, 2, none⟩ (.int .i64 F.n)).setCell ⟨MB, 3, none⟩ (.slice la2 F.ls.len lc2)).setCell ⟨MB, 4, none⟩ (.slice ka2 F.ks.len kc2))) := Lib.hid ⟨cells4 ((hsm _ (by omega) hlF).2.trans hF), cells4 ((hsm _ (by omega) hlX).2.trans hX), hc5'⟩
    have HS2 := Lib.hid hS2
    change Hid ((Builtin.append_ #[28, 28] 28 #[av, .slice (some ⟨W2.heap.size, 0, none⟩) 1 1]).run Tryz.prog (W2.drew.alloc (.cells #[.int .i64 X.k, .int .i64 X.n, .slice la3 X.ls.len lc3, .slice ka3 X.ks.len kc3] 30)) = _) at HRUN
    clear hb hF hX hsm hc5' hS2 q1 q2 HST HMC hlF hlX
    go_wp2_with fail
    refine wp_region_L (fun (w' : World) => (w'.cell? ⟨P2, 0, none⟩ = some (.int .i64 F.k) ∧ w'.cell? ⟨P2, 1, none⟩ = some (.int .i64 F.n) ∧ w'.cell? ⟨P2, 2, none⟩ = some (.slice la2 F.ls.len lc2) ∧ w'.cell? ⟨P2, 3, none⟩ = some (.slice ka2 F.ks.len kc2)) ∧ (w'.cell? ⟨P1, 0, none⟩ = some (.int .i64 X.k) ∧ w'.cell? ⟨P1, 1, none⟩ = some (.int .i64 X.n) ∧ w'.cell? ⟨P1, 2, none⟩ = some (.slice la3 X.ls.len lc3) ∧ w'.cell? ⟨P1, 3, none⟩ = some (.slice ka3 X.ks.len kc3)) ∧ w'.cell? ⟨MB, 5, none⟩ = some av) 15 (by kernel_rfl) ?_
    have hH := (show (fun (w' : World) => (w'.cell? ⟨P2, 0, none⟩ = some (.int .i64 F.k) ∧ w'.cell? ⟨P2, 1, none⟩ = some (.int .i64 F.n) ∧ w'.cell? ⟨P2, 2, none⟩ = some (.slice la2 F.ls.len lc2) ∧ w'.cell? ⟨P2, 3, none⟩ = some (.slice ka2 F.ks.len kc2)) ∧ (w'.cell? ⟨P1, 0, none⟩ = some (.int .i64 X.k) ∧ w'.cell? ⟨P1, 1, none⟩ = some (.int .i64 X.n) ∧ w'.cell? ⟨P1, 2, none⟩ = some (.slice la3 X.ls.len lc3) ∧ w'.cell? ⟨P1, 3, none⟩ = some (.slice ka3 X.ks.len kc3)) ∧ w'.cell? ⟨MB, 5, none⟩ = some av) W2.drew from HS2.out)
    refine tkL 0 ?_ hH ?_ ?_
    rotate_left
    · intro w' hSw
      obtain ⟨⟨s0, s1, s2, s3⟩, ⟨t0, t1, t2, t3⟩, u0⟩ := hSw
      go_simp
      try with_reducible rfl
    refine tkL 1 ?_ hH ?_ ?_
    rotate_left
    · intro w' hSw
      obtain ⟨⟨s0, s1, s2, s3⟩, ⟨t0, t1, t2, t3⟩, u0⟩ := hSw
      go_simp
      try with_reducible rfl
    refine tkL 2 ?_ hH ?_ ?_
    rotate_left
    · intro w' hSw
      obtain ⟨⟨s0, s1, s2, s3⟩, ⟨t0, t1, t2, t3⟩, u0⟩ := hSw
      go_simp
      try with_reducible rfl
    refine tkL 3 ?_ hH ?_ ?_
    rotate_left
    · intro w' hSw
      obtain ⟨⟨s0, s1, s2, s3⟩, ⟨t0, t1, t2, t3⟩, u0⟩ := hSw
      go_simp
      try with_reducible rfl
    refine tkL 4 ?_ hH ?_ ?_
    rotate_left
    · intro w' hSw
      obtain ⟨⟨s0, s1, s2, s3⟩, ⟨t0, t1, t2, t3⟩, u0⟩ := hSw
      go_simp
      try with_reducible rfl
    refine tkL 5 ?_ hH ?_ ?_
    rotate_left
    · intro w' hSw
      obtain ⟨⟨s0, s1, s2, s3⟩, ⟨t0, t1, t2, t3⟩, u0⟩ := hSw
      go_simp
      try with_reducible rfl
    refine tkL 6 ?_ hH ?_ ?_
    rotate_left
    · intro w' hSw
      obtain ⟨⟨s0, s1, s2, s3⟩, ⟨t0, t1, t2, t3⟩, u0⟩ := hSw
      go_simp
      try with_reducible rfl
    refine tkL 7 ?_ hH ?_ ?_
    rotate_left
    · intro w' hSw
      obtain ⟨⟨s0, s1, s2, s3⟩, ⟨t0, t1, t2, t3⟩, u0⟩ := hSw
      go_simp
      try with_reducible rfl
    refine oneL 8 (fun K hK => ?_)
    go_simp
    clear hH
    have hH := HSA.out (.cells #[.int .i64 X.k, .int .i64 X.n, .slice la3 X.ls.len lc3, .slice ka3 X.ks.len kc3] 30)
    refine hK.out _ _ hH ?_
    clear hK K
    refine oneL 9 (fun K hK => ?_)
    refine step_append (by rfl) _ _ _ (by rfl) (by rfl) (by rfl) HRUN.out ?_
    clear hH
    have hH := HS3.out
    refine hK.out _ _ hH ?_
    clear hK K
    refine tkL 10 ?_ hH ?_ ?_
    rotate_left
    · intro w' hSw
      obtain ⟨⟨s0, s1, s2, s3⟩, ⟨t0, t1, t2, t3⟩, u0⟩ := hSw
      go_simp
      try with_reducible rfl
    refine tkL 11 ?_ hH ?_ ?_
    rotate_left
    · intro w' hSw
      obtain ⟨⟨s0, s1, s2, s3⟩, ⟨t0, t1, t2, t3⟩, u0⟩ := hSw
      go_simp
      try with_reducible rfl
    refine oneL 12 (fun K hK => ?_)
    go_simp
    clear hH
    have hH := HS4.out
    refine hK.out _ _ hH ?_
    clear hK K
    refine oneL 13 (fun K hK => ?_)
    go_simp
    refine hK.out _ _ hH ?_
    clear hK K
    refine tkL 14 ?_ hH ?_ ?_
    rotate_left
    · intro w' hSw
      obtain ⟨⟨s0, s1, s2, s3⟩, ⟨t0, t1, t2, t3⟩, u0⟩ := hSw
      go_simp
      try with_reducible rfl
    refine lastL (fun K hK => ?_)
    go_simp
    refine hK.out _ _ ?_
    clear hK K hH
    try simp only [Act.put, List.setIfInBounds_toArray, List.set_cons_zero, List.set_cons_succ]
    refine wpAnyL_done (by kernel_rfl) ?_ _
    go_wp2_with fail
    refine bodyPost_ret (v := .tuple #[.bool true, .int .i64 0]) (by simp [results, Tryz.results57, go_sem]) rfl ?_
    exact ⟨rfl, HN.out.2, _, _, _, _, _, HN.out.1⟩
end Go.Proofs.YtnfhpombnbpdcaaGreat
