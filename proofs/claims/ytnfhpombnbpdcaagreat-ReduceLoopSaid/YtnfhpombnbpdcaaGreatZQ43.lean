/- Yapp. No condition but those that stand in each statement. -/
import Derived.Deep.RegionHeld3
import Derived.Deep.DeepCutAuto
import Derived.IntWalk
import Derived.Test.YtnfhpombnbpdcaaGreatZQ39
namespace Go.Proofs.YtnfhpombnbpdcaaGreat
open Go.RowKit
set_option maxRecDepth 100000 in
set_option maxHeartbeats 4000000 in
theorem yApply_nil (B lo MB : Nat) (ea : Option Addr) (len cap : Nat) (T : Tm) (n : Nat) (w : World) (h : Mi B lo MB ea len cap T .nil n w) :
    Calls Tryz.prog 58 #[.pointer (some ⟨MB, 0, none⟩)] w fun e w' => e = .returned (.tuple #[.bool false, .int .i64 0]) ∧ w' = w := by
  obtain ⟨la, lc, ka, kc, av, h⟩ := h
  obtain ⟨⟨m0, m1, m2, m3, m4, m5, m6⟩, mf, ml⟩ := h.cells
  obtain ⟨x, c, rfl, _⟩ := h.2.2.2.1.slice
  change w.cell? ⟨MB, 5, none⟩ = some (.slice x 0 c) at m5
  have hw : IntKind.i64.wrap (-1) = -1 := IntWalk.i64_in _ (by omega)
  clear h
  go_enter Tryz.func58, Tryz.ntmps58
  go_wp2_with fail
  refine bodyPost_ret (v := .tuple #[.bool false, .int .i64 0]) (by simp [results, Tryz.results58, go_sem]) rfl ?_
  exact ⟨rfl, rfl⟩
set_option maxRecDepth 100000 in
set_option maxHeartbeats 4000000 in
theorem yApply_any (B lo MB : Nat) (ea : Option Addr) (len cap : Nat) (T X1 : Tm) (G : Ft) (n : Nat) (hn5 : n ≤ 100000) (w : World) (h : Mi B lo MB ea len cap T (G.app X1.one) n w) (hk : T.ks.len = 2) :
    Calls Tryz.prog 58 #[.pointer (some ⟨MB, 0, none⟩)] w (StP B lo MB ea len cap (openA (T.kid 1) X1) G n w) := by
  obtain ⟨la, lc, ka, kc, av, h⟩ := h
  obtain ⟨⟨m0, m1, m2, m3, m4, m5, m6⟩, mf, ml⟩ := h.cells
  obtain ⟨b, o, la2, lc2, ka2, kc2, rfl, hb2, e0, e1, e2, e3, s2, s3⟩ := tl_kid (i := 1) h.2.2.1 (by omega)
  rw [hk] at m4
  change w.cell? ⟨b, o + 4, none⟩ = _ at e0
  change w.cell? ⟨b, o + 4 + 1, none⟩ = _ at e1
  change w.cell? ⟨b, o + 4 + 2, none⟩ = _ at e2
  change w.cell? ⟨b, o + 4 + 3, none⟩ = _ at e3
  obtain ⟨g, c, la3, lc3, ka3, kc3, hav, hc1, hc2, ⟨f0, f1, f2, f3⟩, hgl, r2, r3, _⟩ := h.pop (Below.refl _ _)
  have al : ∀ (p : Addr) (v : Value) (os : Obj), w.cell? p = some v → (w.alloc os).cell? p = some v := fun p v os h => (((Below.refl w.heap.size w).alloc (Nat.le_refl _) os).cell (World.block_lt_of_cell? w p h)).trans h
  have al2 : ∀ (p : Addr) (v : Value) (os os' : Obj), w.cell? p = some v → ((w.alloc os).alloc os').cell? p = some v := fun p v os os' h => ((((Below.refl w.heap.size w).alloc (Nat.le_refl _) os).alloc (by simp) os').cell (World.block_lt_of_cell? w p h)).trans h
  generalize hX2 : kidT T.ks 1 = X2 at e0 e1 e2 e3 s2 s3
  have HOX : Hid (openA (T.kid 1) X1 = openA X2 X1) := Lib.hid (by rw [← hX2]; rfl)
  clear hX2
  have hlen : G.len ≤ 9223372036854775806 := by unfold maxLen at hc2; omega
  have HST : Hid (∀ (W : World) (p1 p2 : Nat), Below w.heap.size w W → W.heap[p1]? = some (.cells #[.int .i64 X2.k, .int .i64 X2.n, .slice la2 X2.ls.len lc2, .slice ka2 X2.ks.len kc2] 30 (0, 0)) → W.heap[p2]? = some (.cells #[.int .i64 X1.k, .int .i64 X1.n, .slice la3 X1.ls.len lc3, .slice ka3 X1.ks.len kc3] 30 (0, 0)) → w.heap.size ≤ p1 → w.heap.size ≤ p2 →
      Calls Tryz.prog 74 #[.pointer (some ⟨MB, 0, none⟩), .func (.func 79) #[] #[.pointer (some ⟨p1, 0, none⟩), .pointer (some ⟨p2, 0, none⟩)]] (W.setCell ⟨MB, 5, none⟩ (.slice (some ⟨g, 0, none⟩) G.len c)) (StP B lo MB ea len cap (openA X2 X1) G n (W.setCell ⟨MB, 5, none⟩ (.slice (some ⟨g, 0, none⟩) G.len c)))) := Lib.hid (fun W p1 p2 hb h1 h2 q1 q2 => by
    have hq : ∀ x, Mx B lo w av x → x ≠ MB ∧ x < w.heap.size := fun x hx => ⟨hx.off h.2.2.2.2.1 h.2.2.2.2.2.1, hx.2.1⟩
    have hg := Only.set W MB 5 (.slice (some ⟨g, 0, none⟩) G.len c)
    have hk : ∀ x, Mx B lo w av x → (W.setCell ⟨MB, 5, none⟩ (.slice (some ⟨g, 0, none⟩) G.len c)).heap[x]? = w.heap[x]? := fun x hx => (Only.block hg (Nat.lt_of_lt_of_le hx.2.1 hb.size) (hq x hx).1).trans (hb.block x hx.2.1)
    obtain ⟨g', c', _, _, _, _, hav', _, _, _, _, _, _, hM⟩ := h.pop hb
    obtain ⟨rfl, rfl⟩ : g = g' ∧ c = c' := by rw [hav] at hav'; injection hav' with h1 _ h3; injection h1 with h1; injection h1 with h1; exact ⟨h1, h3⟩
    exact yOpen_yApp1 p1 p2 B lo MB ea len cap T X2 X1 G n hn5 _ _ _ _ _ _ hM ((Only.block hg (lt_of_block h1) (by omega)).trans h1) ((Only.block hg (lt_of_block h2) (by omega)).trans h2) (by omega) (by omega) ((s2.keep hk).weak hq) (s3.turn hk hq) ((r2.keep hk).weak hq) (r3.turn hk hq) (by rw [World.size_setCell]; exact hb.size))
  have HAC : Hid (∀ W, Below w.heap.size w W → AcP MB lo w (W.setCell ⟨MB, 5, none⟩ (.slice (some ⟨g, 0, none⟩) G.len c))) := Lib.hid (fun W hb => (AcP.of hb).trans (AcP.set _ _ _ _ _))
  have HMC : Hid (∀ W, Below w.heap.size w W → W.cell? ⟨MB, 5, none⟩ = some (.slice (some ⟨g, 0, none⟩) (G.len + 1) c) ∧ (∀ o, W.frozen? ⟨MB, o, none⟩ = false) ∧ MB < W.heap.size) := Lib.hid (fun W hb => by
    obtain ⟨⟨_, _, _, _, _, y5, _⟩, yf, yl⟩ := (h.later hb).cells
    exact ⟨by rw [y5, hav], yf, yl⟩)
  rw [hav] at m5
  clear h hb2 s2 s3 r2 r3 hav
  rw [HOX.out]
  clear HOX
  generalize G.len = q at f0 f1 f2 f3 hc1 HST HAC HMC m5 hlen
  have hw1 : IntKind.i64.wrap (((q + 1 : Nat) : Int) - 1) = (q : Int) := by rw [IntWalk.i64_in _ (by omega)]; omega
  have hw2 : IntKind.i64.wrap ((q : Int) + 1 - 1) = (q : Int) := by rw [IntWalk.i64_in _ (by omega)]; omega
  have hw3 : IntKind.i64.wrap (q : Int) = (q : Int) := IntWalk.i64_in _ (by omega)
  have hq1 : (q : Int) < ((q + 1 : Nat) : Int) := by omega
  have hq2 : ¬ ((q : Int) < 0) := by omega
  have m4a := fun cs => al _ _ (.cells cs 30) m4
  have m4b := fun cs cs' => al2 _ _ (.cells cs 30) (.cells cs' 30) m4
  have m5a := fun cs => al _ _ (.cells cs 30) m5
  have m5b := fun cs cs' => al2 _ _ (.cells cs 30) (.cells cs' 30) m5
  have e0a := fun cs => al _ _ (.cells cs 30) e0
  have e0b := fun cs cs' => al2 _ _ (.cells cs 30) (.cells cs' 30) e0
  have e1a := fun cs => al _ _ (.cells cs 30) e1
  have e1b := fun cs cs' => al2 _ _ (.cells cs 30) (.cells cs' 30) e1
  have e2a := fun cs => al _ _ (.cells cs 30) e2
  have e2b := fun cs cs' => al2 _ _ (.cells cs 30) (.cells cs' 30) e2
  have e3a := fun cs => al _ _ (.cells cs 30) e3
  have e3b := fun cs cs' => al2 _ _ (.cells cs 30) (.cells cs' 30) e3
  have f0a := fun cs => al _ _ (.cells cs 30) f0
  have f0b := fun cs cs' => al2 _ _ (.cells cs 30) (.cells cs' 30) f0
  have f1a := fun cs => al _ _ (.cells cs 30) f1
  have f1b := fun cs cs' => al2 _ _ (.cells cs 30) (.cells cs' 30) f1
  have f2a := fun cs => al _ _ (.cells cs 30) f2
  have f2b := fun cs cs' => al2 _ _ (.cells cs 30) (.cells cs' 30) f2
  have f3a := fun cs => al _ _ (.cells cs 30) f3
  have f3b := fun cs cs' => al2 _ _ (.cells cs 30) (.cells cs' 30) f3
  clear al al2
  go_enter Tryz.func58, Tryz.ntmps58
  go_upto_region 4 with fail
  go_region
  case _ =>
    obtain ⟨W2, hW2⟩ : ∃ W2, W2 = ((w.alloc (.cells #[.int .i64 X2.k, .int .i64 X2.n, .slice la2 X2.ls.len lc2, .slice ka2 X2.ks.len kc2] 30)).alloc (.cells #[.int .i64 X1.k, .int .i64 X1.n, .slice la3 X1.ls.len lc3, .slice ka3 X1.ks.len kc3] 30)).drew := ⟨_, rfl⟩
    have hb : Below w.heap.size w W2 := by rw [hW2]; exact (((Below.refl _ _).alloc (Nat.le_refl _) _).alloc (by simp) _).drew
    have h1 : W2.heap[w.heap.size]? = some (.cells #[.int .i64 X2.k, .int .i64 X2.n, .slice la2 X2.ls.len lc2, .slice ka2 X2.ks.len kc2] 30 (0, 0)) := by rw [hW2]; exact (heap_old _ _ (by simp)).trans (heap_new _ _)
    have h2 : W2.heap[w.heap.size + 1]? = some (.cells #[.int .i64 X1.k, .int .i64 X1.n, .slice la3 X1.ls.len lc3, .slice ka3 X1.ks.len kc3] 30 (0, 0)) := by rw [hW2]; exact heap_second _ _ _
    rw [← hW2]
    clear hW2
    obtain ⟨y5, yf, yl⟩ := HMC.out W2 hb
    have HA := Lib.hid (HAC.out W2 hb)
    have HS := HST.out W2 w.heap.size (w.heap.size + 1) hb h1 h2 (by omega) (by omega)
    clear h1 h2
    have HS2 := Lib.hid HS
    clear HS hb HST HAC HMC
    go_wp2_with fail
    refine HS2.out.mono ?_
    intro e w3 hp
    have HP := Lib.hid (hp.after HA.out)
    clear hp
    rcases HP.out with ⟨_, ⟨_, rfl⟩ | ⟨_, _, rfl, _⟩ | ⟨_, _, rfl⟩⟩
    · go_wp2_with fail
      refine bodyPost_ret (v := .tuple #[.bool false, .int .i64 40]) (by simp [results, Tryz.results58, go_sem]) rfl ?_
      exact HP.out
    · go_wp2_with fail
      refine bodyPost_ret (v := .tuple #[.bool true, .int .i64 0]) (by simp [results, Tryz.results58, go_sem]) rfl ?_
      exact HP.out
    · go_wp2_with fail
      refine bodyPost_ret (v := .tuple #[.bool false, .int .i64 (openA X2 X1).2]) (by simp [results, Tryz.results58, go_sem]) rfl ?_
      exact HP.out
  case _ =>
    obtain ⟨W2, hW2⟩ : ∃ W2, W2 = ((w.alloc (.cells #[.int .i64 X1.k, .int .i64 X1.n, .slice la3 X1.ls.len lc3, .slice ka3 X1.ks.len kc3] 30)).alloc (.cells #[.int .i64 X2.k, .int .i64 X2.n, .slice la2 X2.ls.len lc2, .slice ka2 X2.ks.len kc2] 30)).drew := ⟨_, rfl⟩
    have hb : Below w.heap.size w W2 := by rw [hW2]; exact (((Below.refl _ _).alloc (Nat.le_refl _) _).alloc (by simp) _).drew
    have h2 : W2.heap[w.heap.size]? = some (.cells #[.int .i64 X1.k, .int .i64 X1.n, .slice la3 X1.ls.len lc3, .slice ka3 X1.ks.len kc3] 30 (0, 0)) := by rw [hW2]; exact (heap_old _ _ (by simp)).trans (heap_new _ _)
    have h1 : W2.heap[w.heap.size + 1]? = some (.cells #[.int .i64 X2.k, .int .i64 X2.n, .slice la2 X2.ls.len lc2, .slice ka2 X2.ks.len kc2] 30 (0, 0)) := by rw [hW2]; exact heap_second _ _ _
    rw [← hW2]
    clear hW2
    obtain ⟨y5, yf, yl⟩ := HMC.out W2 hb
    have HA := Lib.hid (HAC.out W2 hb)
    have HS := HST.out W2 (w.heap.size + 1) w.heap.size hb h1 h2 (by omega) (by omega)
    clear h1 h2
    have HS2 := Lib.hid HS
    clear HS hb HST HAC HMC
    go_wp2_with fail
    refine HS2.out.mono ?_
    intro e w3 hp
    have HP := Lib.hid (hp.after HA.out)
    clear hp
    rcases HP.out with ⟨_, ⟨_, rfl⟩ | ⟨_, _, rfl, _⟩ | ⟨_, _, rfl⟩⟩
    · go_wp2_with fail
      refine bodyPost_ret (v := .tuple #[.bool false, .int .i64 40]) (by simp [results, Tryz.results58, go_sem]) rfl ?_
      exact HP.out
    · go_wp2_with fail
      refine bodyPost_ret (v := .tuple #[.bool true, .int .i64 0]) (by simp [results, Tryz.results58, go_sem]) rfl ?_
      exact HP.out
    · go_wp2_with fail
      refine bodyPost_ret (v := .tuple #[.bool false, .int .i64 (openA X2 X1).2]) (by simp [results, Tryz.results58, go_sem]) rfl ?_
      exact HP.out
end Go.Proofs.YtnfhpombnbpdcaaGreat
