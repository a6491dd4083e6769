/- Ylet. No condition but those that stand in each statement. -/
import Derived.Deep.RegionHeld3
import Derived.Deep.DeepCutAuto
import Derived.Test.YtnfhpombnbpdcaaGreatZQ39
namespace Go.Proofs.YtnfhpombnbpdcaaGreat
open Go.RowKit
set_option maxRecDepth 100000 in
set_option maxHeartbeats 4000000 in
theorem yLet_any (B lo MB : Nat) (ea : Option Addr) (len cap : Nat) (T : Tm) (G : Ft) (n : Nat) (hn5 : n ≤ 100000) (w : World) (h : Mi B lo MB ea len cap T G n w) (hk : T.ks.len = 3) :
    Calls Tryz.prog 55 #[.pointer (some ⟨MB, 0, none⟩)] w (StP B lo MB ea len cap (openA (T.kid 2) (T.kid 1)) G n w) := by
  obtain ⟨la, lc, ka, kc, av, h⟩ := h
  obtain ⟨⟨m0, m1, m2, m3, m4, m5, m6⟩, mf, ml⟩ := h.cells
  obtain ⟨b, o, la2, lc2, ka2, kc2, rfl, hb2, e0, e1, e2, e3, s2, s3⟩ := tl_kid (i := 2) h.2.2.1 (by omega)
  obtain ⟨b', o', la3, lc3, ka3, kc3, hbo, hb3, f0, f1, f2, f3, r2, r3⟩ := tl_kid (i := 1) h.2.2.1 (by omega)
  obtain ⟨rfl, rfl⟩ : b = b' ∧ o = o' := by injection hbo with h; injection h with h1 h2; exact ⟨h1, h2⟩
  rw [hk] at m4
  change w.cell? ⟨b, o + 8, none⟩ = _ at e0
  change w.cell? ⟨b, o + 8 + 1, none⟩ = _ at e1
  change w.cell? ⟨b, o + 8 + 2, none⟩ = _ at e2
  change w.cell? ⟨b, o + 8 + 3, none⟩ = _ at e3
  change w.cell? ⟨b, o + 4, none⟩ = _ at f0
  change w.cell? ⟨b, o + 4 + 1, none⟩ = _ at f1
  change w.cell? ⟨b, o + 4 + 2, none⟩ = _ at f2
  change w.cell? ⟨b, o + 4 + 3, none⟩ = _ at f3
  have bl : ∀ x : Nat, Mx B lo w av x → x < w.heap.size := fun x hx => hx.2.1
  have hbl := bl b hb2
  have al : ∀ (p : Addr) (v : Value) (os : Obj), w.cell? p = some v → (w.alloc os).cell? p = some v := fun p v os h => (((Below.refl w.heap.size w).alloc (Nat.le_refl _) os).cell (World.block_lt_of_cell? w p h)).trans h
  have al2 : ∀ (p : Addr) (v : Value) (os os' : Obj), w.cell? p = some v → ((w.alloc os).alloc os').cell? p = some v := fun p v os os' h => ((((Below.refl w.heap.size w).alloc (Nat.le_refl _) os).alloc (by simp) os').cell (World.block_lt_of_cell? w p h)).trans h
  clear hbo hb3
  generalize hX2 : kidT T.ks 2 = X2 at e0 e1 e2 e3 s2 s3
  generalize hX1 : kidT T.ks 1 = X1 at f0 f1 f2 f3 r2 r3
  have HOX : Hid (openA (T.kid 2) (T.kid 1) = openA X2 X1) := Lib.hid (by rw [← hX2, ← hX1]; rfl)
  clear hX1 hX2
  have m4a := fun cs => al _ _ (.cells cs 30) m4
  have m4b := fun cs cs' => al2 _ _ (.cells cs 30) (.cells cs' 30) m4
  have e0a := fun cs => al _ _ (.cells cs 30) e0
  have e0b := fun cs cs' => al2 _ _ (.cells cs 30) (.cells cs' 30) e0
  have e1a := fun cs => al _ _ (.cells cs 30) e1
  have e1b := fun cs cs' => al2 _ _ (.cells cs 30) (.cells cs' 30) e1
  have e2a := fun cs => al _ _ (.cells cs 30) e2
  have e2b := fun cs cs' => al2 _ _ (.cells cs 30) (.cells cs' 30) e2
  have e3a := fun cs => al _ _ (.cells cs 30) e3
  have e3b := fun cs cs' => al2 _ _ (.cells cs 30) (.cells cs' 30) e3
  have f0a := fun cs => al _ _ (.cells cs 30) f0
  have f0b := fun cs cs' => al2 _ _ (.cells cs 30) (.cells cs' 30) f0
  have f1a := fun cs => al _ _ (.cells cs 30) f1
  have f1b := fun cs cs' => al2 _ _ (.cells cs 30) (.cells cs' 30) f1
  have f2a := fun cs => al _ _ (.cells cs 30) f2
  have f2b := fun cs cs' => al2 _ _ (.cells cs 30) (.cells cs' 30) f2
  have f3a := fun cs => al _ _ (.cells cs 30) f3
  have f3b := fun cs cs' => al2 _ _ (.cells cs 30) (.cells cs' 30) f3
  have HST : Hid (∀ (W : World) (p1 p2 : Nat), Below w.heap.size w W → W.heap[p1]? = some (.cells #[.int .i64 X2.k, .int .i64 X2.n, .slice la2 X2.ls.len lc2, .slice ka2 X2.ks.len kc2] 30 (0, 0)) → W.heap[p2]? = some (.cells #[.int .i64 X1.k, .int .i64 X1.n, .slice la3 X1.ls.len lc3, .slice ka3 X1.ks.len kc3] 30 (0, 0)) → w.heap.size ≤ p1 → w.heap.size ≤ p2 →
      Calls Tryz.prog 74 #[.pointer (some ⟨MB, 0, none⟩), .func (.func 75) #[] #[.pointer (some ⟨p1, 0, none⟩), .pointer (some ⟨p2, 0, none⟩)]] W (StP B lo MB ea len cap (openA X2 X1) G n W)) := Lib.hid (fun W p1 p2 hb h1 h2 q1 q2 => by
    have hq : ∀ x, Mx B lo w av x → x ≠ MB ∧ x < w.heap.size := fun x hx => ⟨hx.off h.2.2.2.2.1 h.2.2.2.2.2.1, hx.2.1⟩
    have hk : ∀ x, Mx B lo w av x → W.heap[x]? = w.heap[x]? := fun x hx => hb.block x hx.2.1
    exact yOpen_yLet1 p1 p2 B lo MB ea len cap T X2 X1 G n hn5 _ _ _ _ _ W (h.later hb) h1 h2 (by omega) (by omega) ((s2.keep hk).weak hq) (s3.turn hk hq) ((r2.keep hk).weak hq) (r3.turn hk hq) hb.size)
  clear h al al2 s2 s3 r2 r3 hb2
  rw [HOX.out]
  clear HOX
  go_enter Tryz.func55, Tryz.ntmps55
  go_upto_region 1 with fail
  go_region
  case _ =>
    obtain ⟨W2, hW2⟩ : ∃ W2, W2 = ((w.alloc (.cells #[.int .i64 X1.k, .int .i64 X1.n, .slice la3 X1.ls.len lc3, .slice ka3 X1.ks.len kc3] 30)).alloc (.cells #[.int .i64 X2.k, .int .i64 X2.n, .slice la2 X2.ls.len lc2, .slice ka2 X2.ks.len kc2] 30)).drew := ⟨_, rfl⟩
    have hb : Below w.heap.size w W2 := by rw [hW2]; exact (((Below.refl _ _).alloc (Nat.le_refl _) _).alloc (by simp) _).drew
    have h2 : W2.heap[w.heap.size]? = some (.cells #[.int .i64 X1.k, .int .i64 X1.n, .slice la3 X1.ls.len lc3, .slice ka3 X1.ks.len kc3] 30 (0, 0)) := by rw [hW2]; exact (heap_old _ _ (by simp)).trans (heap_new _ _)
    have h1 : W2.heap[w.heap.size + 1]? = some (.cells #[.int .i64 X2.k, .int .i64 X2.n, .slice la2 X2.ls.len lc2, .slice ka2 X2.ks.len kc2] 30 (0, 0)) := by rw [hW2]; exact heap_second _ _ _
    rw [← hW2]
    clear hW2
    have HS := HST.out W2 (w.heap.size + 1) w.heap.size hb h1 h2 (by omega) (by omega)
    clear h1 h2
    have HS2 := Lib.hid HS
    have HB := Lib.hid hb
    clear HS hb
    go_wp2_with fail
    refine HS2.out.mono ?_
    intro e w3 hp
    have HP := Lib.hid (hp.after (AcP.of HB.out))
    clear hp
    rcases HP.out with ⟨_, ⟨_, rfl⟩ | ⟨_, _, rfl, _⟩ | ⟨_, _, rfl⟩⟩
    · go_wp2_with fail
      refine bodyPost_ret (v := .tuple #[.bool false, .int .i64 40]) (by simp [results, Tryz.results55, go_sem]) rfl ?_
      exact HP.out
    · go_wp2_with fail
      refine bodyPost_ret (v := .tuple #[.bool true, .int .i64 0]) (by simp [results, Tryz.results55, go_sem]) rfl ?_
      exact HP.out
    · go_wp2_with fail
      refine bodyPost_ret (v := .tuple #[.bool false, .int .i64 (openA X2 X1).2]) (by simp [results, Tryz.results55, go_sem]) rfl ?_
      exact HP.out
  case _ =>
    obtain ⟨W2, hW2⟩ : ∃ W2, W2 = ((w.alloc (.cells #[.int .i64 X2.k, .int .i64 X2.n, .slice la2 X2.ls.len lc2, .slice ka2 X2.ks.len kc2] 30)).alloc (.cells #[.int .i64 X1.k, .int .i64 X1.n, .slice la3 X1.ls.len lc3, .slice ka3 X1.ks.len kc3] 30)).drew := ⟨_, rfl⟩
    have hb : Below w.heap.size w W2 := by rw [hW2]; exact (((Below.refl _ _).alloc (Nat.le_refl _) _).alloc (by simp) _).drew
    have h1 : W2.heap[w.heap.size]? = some (.cells #[.int .i64 X2.k, .int .i64 X2.n, .slice la2 X2.ls.len lc2, .slice ka2 X2.ks.len kc2] 30 (0, 0)) := by rw [hW2]; exact (heap_old _ _ (by simp)).trans (heap_new _ _)
    have h2 : W2.heap[w.heap.size + 1]? = some (.cells #[.int .i64 X1.k, .int .i64 X1.n, .slice la3 X1.ls.len lc3, .slice ka3 X1.ks.len kc3] 30 (0, 0)) := by rw [hW2]; exact heap_second _ _ _
    rw [← hW2]
    clear hW2
    have HS := HST.out W2 w.heap.size (w.heap.size + 1) hb h1 h2 (by omega) (by omega)
    clear h1 h2
    have HS2 := Lib.hid HS
    have HB := Lib.hid hb
    clear HS hb
    go_wp2_with fail
    refine HS2.out.mono ?_
    intro e w3 hp
    have HP := Lib.hid (hp.after (AcP.of HB.out))
    clear hp
    rcases HP.out with ⟨_, ⟨_, rfl⟩ | ⟨_, _, rfl, _⟩ | ⟨_, _, rfl⟩⟩
    · go_wp2_with fail
      refine bodyPost_ret (v := .tuple #[.bool false, .int .i64 40]) (by simp [results, Tryz.results55, go_sem]) rfl ?_
      exact HP.out
    · go_wp2_with fail
      refine bodyPost_ret (v := .tuple #[.bool true, .int .i64 0]) (by simp [results, Tryz.results55, go_sem]) rfl ?_
      exact HP.out
    · go_wp2_with fail
      refine bodyPost_ret (v := .tuple #[.bool false, .int .i64 (openA X2 X1).2]) (by simp [results, Tryz.results55, go_sem]) rfl ?_
      exact HP.out
end Go.Proofs.YtnfhpombnbpdcaaGreat
