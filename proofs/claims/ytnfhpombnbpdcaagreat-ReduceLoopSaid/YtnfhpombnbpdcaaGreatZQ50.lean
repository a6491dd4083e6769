/- Yterm. No condition but those that stand in each statement. -/
import Derived.Deep.LoopGhost
import Derived.Deep.RegionHeld3
import Derived.Deep.DeepCutAuto
import Derived.IntWalk
import Derived.Test.YtnfhpombnbpdcaaGreatZQ37
import Derived.Test.YtnfhpombnbpdcaaGreatZQ36
namespace Go.Proofs.YtnfhpombnbpdcaaGreat
open Go.RowKit
theorem stF_app : ∀ d r : List Tm, stF (d ++ r) = (stF r).app (stF d)
  | [], r => (Ft.app_nil _).symm
  | x :: d, r => by show (stF (d ++ r)).app x.one = _; rw [stF_app d r, Ft.app_assoc]; rfl
theorem apA_snoc : ∀ (d : List Tm) (t y : Tm), apA t (d ++ [y]) = appTo (apA t d) y
  | [], _, _ => rfl
  | x :: d, t, y => apA_snoc d (appTo t x) y
def YtR (w : World) (t : Tm) (la : Option Addr) (lc : Nat) (ka : Option Addr) (kc : Nat) (wr : World) : Prop :=
  wr.heap[w.heap.size]? = some (.cells #[.int .i64 0, .int .i64 0, .slice none 0 0, .slice none 0 0] 30 (0, 0)) ∧ wr.heap[w.heap.size + 1]? = some (.cells #[.int .i64 t.k, .int .i64 t.n, .slice la t.ls.len lc, .slice ka t.ks.len kc] 30 (0, 0)) ∧
  SlIn wr (fun b => (b ≠ w.heap.size ∧ b ≠ w.heap.size + 1) ∧ b < wr.heap.size) t.ls la lc ∧ TlIn wr (fun b => (b ≠ w.heap.size ∧ b ≠ w.heap.size + 1) ∧ b < wr.heap.size) t.ks ka kc ∧ Below w.heap.size w wr
theorem YtR.start {w : World} {t : Tm} {la : Option Addr} {lc : Nat} {ka : Option Addr} {kc : Nat} (hl : SlIn w (· < w.heap.size) t.ls la lc) (hs : TlIn w (· < w.heap.size) t.ks ka kc) :
    YtR w t la lc ka kc ((w.alloc (.cells #[.int .i64 0, .int .i64 0, .slice none 0 0, .slice none 0 0] 30)).alloc (.cells #[.int .i64 t.k, .int .i64 t.n, .slice la t.ls.len lc, .slice ka t.ks.len kc] 30)) := by
  have hb : Below w.heap.size w ((w.alloc (.cells #[.int .i64 0, .int .i64 0, .slice none 0 0, .slice none 0 0] 30)).alloc (.cells #[.int .i64 t.k, .int .i64 t.n, .slice la t.ls.len lc, .slice ka t.ks.len kc] 30)) := ((Below.refl _ _).alloc (Nat.le_refl _) _).alloc (by simp) _
  have hq : ∀ b, b < w.heap.size → (b ≠ w.heap.size ∧ b ≠ w.heap.size + 1) ∧ b < ((w.alloc (.cells #[.int .i64 0, .int .i64 0, .slice none 0 0, .slice none 0 0] 30)).alloc (.cells #[.int .i64 t.k, .int .i64 t.n, .slice la t.ls.len lc, .slice ka t.ks.len kc] 30)).heap.size := fun b hx => ⟨by omega, by simp; omega⟩
  exact ⟨(heap_old _ _ (by simp)).trans (heap_new _ _), heap_second _ _ _, (hl.keep (fun b hx => hb.block b hx)).weak hq, hs.turn (fun b hx => hb.block b hx) hq, hb⟩
theorem YtR.next {w : World} {t y : Tm} {la : Option Addr} {lc : Nat} {ka : Option Addr} {kc : Nat} {wr : World} (h : YtR w t la lc ka kc wr) {ya : Option Addr} {yc : Nat} {za : Option Addr} {zc : Nat} (hl : SlIn wr (· < w.heap.size) y.ls ya yc) (hs : TlIn wr (· < w.heap.size) y.ks za zc) :
    YtR w (appTo t y) none 0 (some ⟨wr.heap.size, 0, none⟩) 2 ((((((wr.setCell ⟨w.heap.size + 1, 0, none⟩ (.int .i64 4)).setCell ⟨w.heap.size + 1, 1, none⟩ (.int .i64 0)).setCell ⟨w.heap.size + 1, 2, none⟩ (.slice none 0 0)).setCell ⟨w.heap.size + 1, 3, none⟩ (.slice (some ⟨wr.heap.size, 0, none⟩) 2 2)).alloc (.cells #[.int .i64 t.k, .int .i64 t.n, .slice la t.ls.len lc, .slice ka t.ks.len kc, .int .i64 y.k, .int .i64 y.n, .slice ya y.ls.len yc, .slice za y.ks.len zc] 30)).drew) := by
  have hlt0 : w.heap.size + 1 < wr.heap.size := lt_of_block h.2.1
  have hsw : ((((((wr.setCell ⟨w.heap.size + 1, 0, none⟩ (.int .i64 4)).setCell ⟨w.heap.size + 1, 1, none⟩ (.int .i64 0)).setCell ⟨w.heap.size + 1, 2, none⟩ (.slice none 0 0)).setCell ⟨w.heap.size + 1, 3, none⟩ (.slice (some ⟨wr.heap.size, 0, none⟩) 2 2)).alloc (.cells #[.int .i64 t.k, .int .i64 t.n, .slice la t.ls.len lc, .slice ka t.ks.len kc, .int .i64 y.k, .int .i64 y.n, .slice ya y.ls.len yc, .slice za y.ks.len zc] 30)).drew) = (((((wr.drew.alloc (.cells #[.int .i64 t.k, .int .i64 t.n, .slice la t.ls.len lc, .slice ka t.ks.len kc, .int .i64 y.k, .int .i64 y.n, .slice ya y.ls.len yc, .slice za y.ks.len zc] 30)).setCell ⟨w.heap.size + 1, 0, none⟩ (.int .i64 4)).setCell ⟨w.heap.size + 1, 1, none⟩ (.int .i64 0)).setCell ⟨w.heap.size + 1, 2, none⟩ (.slice none 0 0)).setCell ⟨w.heap.size + 1, 3, none⟩ (.slice (some ⟨wr.heap.size, 0, none⟩) 2 2)) := by
    rw [World.setCell_alloc_past _ _ _ _ (by simpa using hlt0), World.setCell_alloc_past _ _ _ _ (by simpa using hlt0), World.setCell_alloc_past _ _ _ _ (by simpa using hlt0), World.setCell_alloc_past _ _ _ _ (by simpa using hlt0)]
    rfl
  rw [hsw]
  obtain ⟨h1, h2, h3, h4, h5⟩ := h
  obtain ⟨W, hW⟩ : ∃ W, wr.drew.alloc (.cells #[.int .i64 t.k, .int .i64 t.n, .slice la t.ls.len lc, .slice ka t.ks.len kc, .int .i64 y.k, .int .i64 y.n, .slice ya y.ls.len yc, .slice za y.ks.len zc] 30) = W := ⟨_, rfl⟩
  have hb : Below wr.heap.size wr W := by rw [← hW]; exact ((Below.refl _ _).drew).alloc (Nat.le_refl _) _
  have hn : W.heap[wr.heap.size]? = some (.cells #[.int .i64 t.k, .int .i64 t.n, .slice la t.ls.len lc, .slice ka t.ks.len kc, .int .i64 y.k, .int .i64 y.n, .slice ya y.ls.len yc, .slice za y.ks.len zc] 30 (0, 0)) := by rw [← hW]; exact heap_new wr.drew _
  have hz : W.heap.size = wr.heap.size + 1 := by rw [← hW]; simp
  rw [hW]
  have hl1 := lt_of_block h1
  have hl2 := lt_of_block h2
  have hg := set4_only (w := W) (w.heap.size + 1) (.int .i64 4) (.int .i64 0) (.slice none 0 0) (.slice (some ⟨wr.heap.size, 0, none⟩) 2 2)
  have e1 := (hb.block _ hl1).trans h1
  have e2 := (hb.block _ hl2).trans h2
  have k1 := heap_setCell_same W (w.heap.size + 1) 0 _ _ (.int .i64 4) e2
  have k2 := heap_setCell_same _ (w.heap.size + 1) 1 _ _ (.int .i64 0) k1
  have k3 := heap_setCell_same _ (w.heap.size + 1) 2 _ _ (.slice none 0 0) k2
  have k4 := heap_setCell_same _ (w.heap.size + 1) 3 _ _ (.slice (some ⟨wr.heap.size, 0, none⟩) 2 2) k3
  have hgz := hg.size
  have hP : ∀ b, ((b ≠ w.heap.size ∧ b ≠ w.heap.size + 1) ∧ b < wr.heap.size) → (b ≠ w.heap.size ∧ b ≠ w.heap.size + 1) ∧ b < W.heap.size := fun b hx => ⟨hx.1, by omega⟩
  have hP2 : ∀ b, b < w.heap.size → (b ≠ w.heap.size ∧ b ≠ w.heap.size + 1) ∧ b < W.heap.size := fun b hx => ⟨by omega, by omega⟩
  have hT : TlIn W (fun b => (b ≠ w.heap.size ∧ b ≠ w.heap.size + 1) ∧ b < W.heap.size) (t.to (y.to .nil)) (some ⟨wr.heap.size, 0, none⟩) 2 :=
    TlIn.mk (Nat.le_refl _) (by omega) ⟨by omega, by omega⟩ (FtIn.push (cell_at hn 0) (cell_at hn 1) (cell_at hn 2) ((h3.keep (fun b hx => hb.block b hx.2)).weak hP) (cell_at hn 3) (h4.turn (fun b hx => hb.block b hx.2) hP)
      (FtIn.push (cell_at hn 4) (cell_at hn 5) (cell_at hn 6) ((hl.keep (fun b hx => hb.block b (by have : b < w.heap.size := hx; omega))).weak hP2) (cell_at hn 7) (hs.turn (fun b hx => hb.block b (by have : b < w.heap.size := hx; omega)) hP2) trivial))
  refine ⟨(Only.block hg (by omega) (by omega)).trans e1, k4, SlIn.none _ _, hT.turn (fun b hx => Only.block hg hx.2 hx.1.2) (fun b hx => ⟨hx.1, by omega⟩), ?_⟩
  exact ⟨hg.os.trans (hb.os.trans h5.os), hg.tape.trans (hb.tape.trans h5.tape), hg.output.trans (hb.output.trans h5.output), by have := h5.size; omega, fun q hq => (Only.block hg (by omega) (by omega)).trans ((hb.block q (by omega)).trans (h5.block q hq))⟩
def YtP (A : Tm) (w : World) (e : Ending) (w' : World) : Prop := ∃ (la : Option Addr) (lc : Nat) (ka : Option Addr) (kc : Nat), e = .returned (.agg #[.int .i64 A.k, .int .i64 A.n, .slice la A.ls.len lc, .slice ka A.ks.len kc]) ∧ SlIn w' (· < w'.heap.size) A.ls la lc ∧ TlIn w' (· < w'.heap.size) A.ks ka kc ∧ Below w.heap.size w w'
theorem YtR.done {w : World} {t : Tm} {la : Option Addr} {lc : Nat} {ka : Option Addr} {kc : Nat} {wr : World} (h : YtR w t la lc ka kc wr) : YtP t w (.returned (.agg #[.int .i64 t.k, .int .i64 t.n, .slice la t.ls.len lc, .slice ka t.ks.len kc])) ((((wr.setCell ⟨w.heap.size, 0, none⟩ (.int .i64 t.k)).setCell ⟨w.heap.size, 1, none⟩ (.int .i64 t.n)).setCell ⟨w.heap.size, 2, none⟩ (.slice la t.ls.len lc)).setCell ⟨w.heap.size, 3, none⟩ (.slice ka t.ks.len kc)) := by
  obtain ⟨h1, h2, h3, h4, h5⟩ := h
  have hg := set4_only (w := wr) w.heap.size (.int .i64 t.k) (.int .i64 t.n) (.slice la t.ls.len lc) (.slice ka t.ks.len kc)
  have hgz := hg.size
  refine ⟨la, lc, ka, kc, rfl, (h3.keep (fun b hx => Only.block hg hx.2 hx.1.1)).weak (fun b hx => by omega), h4.turn (fun b hx => Only.block hg hx.2 hx.1.1) (fun b hx => by omega), ?_⟩
  exact ⟨hg.os.trans h5.os, hg.tape.trans h5.tape, hg.output.trans h5.output, by have := h5.size; omega, fun q hq => (Only.block hg (by have := h5.size; omega) (by omega)).trans (h5.block q hq)⟩
set_option maxRecDepth 100000 in
set_option maxHeartbeats 4000000 in
theorem yTerm_any (B lo MB : Nat) (ea : Option Addr) (len cap : Nat) (T : Tm) (xs : List Tm) (n : Nat) (w : World) (h : Mi B lo MB ea len cap T (stF xs) n w) (hxs : xs.length ≤ 8000000) :
    Calls Tryz.prog 27 #[.pointer (some ⟨MB, 0, none⟩)] w (YtP (apA T xs) w) := by
  obtain ⟨la, lc, ka, kc, av, h⟩ := h
  obtain ⟨⟨m0, m1, m2, m3, m4, m5, m6⟩, mf, ml⟩ := h.cells
  have hq : ∀ b, Mx B lo w av b → b < w.heap.size := fun b hx => hx.2.1
  have HS := Lib.hid (YtR.start (h.2.1.weak hq) (h.2.2.1.weak hq))
  obtain ⟨ga, gc, rfl, hrow⟩ := h.2.2.2.1.slice
  have hrow' : TlIn w (· < w.heap.size) (stF xs) ga gc := hrow.weak (fun b hx => hx.2)
  have HROW := Lib.hid hrow'
  rw [stF_len] at m5
  have HM := Lib.hid (fun (W : World) (hb : Below w.heap.size w W) => And.intro ((bcell hb MB 5 ml).trans m5) True.intro)
  have hw1 : IntKind.i64.wrap ((xs.length : Int) - 1) = (xs.length : Int) - 1 := IntWalk.i64_in _ (by omega)
  have HX := Lib.hid hxs
  have a1 := fun o => (bcell ((Below.refl w.heap.size w).alloc (Nat.le_refl _) o) MB 1 ml).trans m1
  have a2 := fun o => (bcell ((Below.refl w.heap.size w).alloc (Nat.le_refl _) o) MB 2 ml).trans m2
  have a3 := fun o => (bcell ((Below.refl w.heap.size w).alloc (Nat.le_refl _) o) MB 3 ml).trans m3
  have a4 := fun o => (bcell ((Below.refl w.heap.size w).alloc (Nat.le_refl _) o) MB 4 ml).trans m4
  have a5 := fun o o' => (bcell (((Below.refl w.heap.size w).alloc (Nat.le_refl _) o).alloc (by simp) o') MB 5 ml).trans m5
  clear h hrow hrow' m0 m1 m2 m3 m4 m5 m6 mf hxs hq
  go_enter Tryz.func27, Tryz.ntmps27
  go_wp2_with fail
  go_loopw [4] (fun jv wr => ∃ (d r : List Tm) (la' : Option Addr) (lc' : Nat) (ka' : Option Addr) (kc' : Nat), jv = .int .i64 ((r.length : Int) - 1) ∧ Hid (xs = d ++ r) ∧ Hid (YtR w (apA T d) la' lc' ka' kc' wr)) (fun jv _ => (intOf jv + 1).toNat)
  case atStart => exact ⟨[], xs, _, _, _, _, rfl, Lib.hid rfl, HS⟩
  case round =>
    clear a1 a2 a3 a4 a5 hw1 HS
    obtain ⟨d, r, la', lc', ka', kc', rfl, hf, hR⟩ := hrel
    obtain ⟨z0, z1, z2, z3⟩ := cells4 hR.out.1
    have zf := free_of hR.out.1
    have zl := lt_of_block hR.out.1
    obtain ⟨t0, t1, t2, t3⟩ := cells4 hR.out.2.1
    have tf := free_of hR.out.2.1
    have tl := lt_of_block hR.out.2.1
    cases r with
    | nil =>
      have HD : Hid (apA T d = apA T xs) := Lib.hid (by rw [hf.out, List.append_nil])
      have HE := Lib.hid hR.out.done
      have d1 : decide ((0 : Int) ≤ -1) = false := rfl
      clear hR hf
      go_wp2_with fail
      refine bodyPost_ret (v := .agg #[.int .i64 (apA T d).k, .int .i64 (apA T d).n, .slice la' (apA T d).ls.len lc', .slice ka' (apA T d).ks.len kc']) (by simp [results, Tryz.results27, go_sem, z0, z1, z2, z3]) rfl ?_
      rw [← HD.out]
      exact HE.out
    | cons y r' =>
      obtain ⟨q, hq⟩ : ∃ q, r'.length = q := ⟨_, rfl⟩
      have hlen : xs.length = d.length + (q + 1) := by rw [hf.out, List.length_append, List.length_cons, hq]
      have hlx := HX.out
      have hG : stF xs = (stF r').app (.cons y.k y.n y.ls y.ks (stF d)) := by rw [hf.out, stF_app]; show ((stF r').app y.one).app (stF d) = _; rw [Ft.app_assoc]; rfl
      have HB := Lib.hid hR.out.2.2.2.2
      obtain ⟨g, go, rfl, hgl, hf0⟩ := HROW.out.some (by rw [stF_len]; omega)
      rw [hG] at hf0
      have hf1 := FtIn.behind (stF r') _ g go hf0
      rw [stF_len, hq] at hf1
      obtain ⟨e0, e1, ⟨ya, yc, e2, s1⟩, ⟨za, zc, e3, s2⟩, _⟩ := (hf1.below HB.out _ _ _ hgl).first
      have HN := Lib.hid (hR.out.next s1 s2)
      have hm5 := (HM.out wr HB.out).1
      have HD : Hid (apA T (d ++ [y]) = appTo (apA T d) y) := Lib.hid (apA_snoc d T y)
      have HSN : Hid (xs = (d ++ [y]) ++ r') := Lib.hid (by rw [hf.out, List.append_assoc]; rfl)
      have hj1 : ((((y :: r').length : Nat) : Int) - 1) = (q : Int) := by rw [List.length_cons, hq]; omega
      rw [hj1]
      have hql : (q : Int) < (xs.length : Int) := by omega
      have hq0 : (0 : Int) ≤ (q : Int) := by omega
      have hgl2 : g < wr.heap.size := by have : g < w.heap.size := hgl; have := HB.out.size; omega
      have hw2 : IntKind.i64.wrap ((q : Int) - 1) = (q : Int) - 1 := IntWalk.i64_in _ (by omega)
      have HQ := Lib.hid hq
      have hMl : MB < wr.heap.size := by have := HB.out.size; omega
      have HSA : Hid (∀ o, (fun (w' : World) => w'.cell? ⟨w.heap.size + 1, 0, none⟩ = some (.int .i64 (apA T d).k) ∧ w'.cell? ⟨w.heap.size + 1, 1, none⟩ = some (.int .i64 (apA T d).n) ∧ w'.cell? ⟨w.heap.size + 1, 2, none⟩ = some (.slice la' (apA T d).ls.len lc') ∧ w'.cell? ⟨w.heap.size + 1, 3, none⟩ = some (.slice ka' (apA T d).ks.len kc') ∧ w'.cell? ⟨MB, 5, none⟩ = some (.slice (some ⟨g, go, none⟩) xs.length gc) ∧ w'.cell? ⟨g, go + q * 4, none⟩ = some (.int .i64 y.k) ∧ w'.cell? ⟨g, go + q * 4 + 1, none⟩ = some (.int .i64 y.n) ∧ w'.cell? ⟨g, go + q * 4 + 2, none⟩ = some (.slice ya y.ls.len yc) ∧ w'.cell? ⟨g, go + q * 4 + 3, none⟩ = some (.slice za y.ks.len zc)) (wr.drew.alloc o)) := Lib.hid (fun o => by
        have k : ∀ p v, wr.cell? p = some v → (wr.drew.alloc o).cell? p = some v := fun p v h => ((((Below.refl wr.heap.size wr).drew).alloc (Nat.le_refl _) o).cell (World.block_lt_of_cell? wr p h)).trans h
        exact ⟨k _ _ t0, k _ _ t1, k _ _ t2, k _ _ t3, k _ _ hm5, k _ _ e0, k _ _ e1, k _ _ e2, k _ _ e3⟩)
      have hSS : (fun (w' : World) => w'.cell? ⟨w.heap.size + 1, 0, none⟩ = some (.int .i64 (apA T d).k) ∧ w'.cell? ⟨w.heap.size + 1, 1, none⟩ = some (.int .i64 (apA T d).n) ∧ w'.cell? ⟨w.heap.size + 1, 2, none⟩ = some (.slice la' (apA T d).ls.len lc') ∧ w'.cell? ⟨w.heap.size + 1, 3, none⟩ = some (.slice ka' (apA T d).ks.len kc') ∧ w'.cell? ⟨MB, 5, none⟩ = some (.slice (some ⟨g, go, none⟩) xs.length gc) ∧ w'.cell? ⟨g, go + q * 4, none⟩ = some (.int .i64 y.k) ∧ w'.cell? ⟨g, go + q * 4 + 1, none⟩ = some (.int .i64 y.n) ∧ w'.cell? ⟨g, go + q * 4 + 2, none⟩ = some (.slice ya y.ls.len yc) ∧ w'.cell? ⟨g, go + q * 4 + 3, none⟩ = some (.slice za y.ks.len zc)) wr.drew := ⟨t0, t1, t2, t3, hm5, e0, e1, e2, e3⟩
      have HSS := Lib.hid hSS
      have HVF : Hid (∀ o, ∀ i, (wr.drew.alloc o).frozen? ⟨w.heap.size + 1, i, none⟩ = false) := Lib.hid (fun o i => free_of ((heap_old wr.drew o tl).trans hR.out.2.1) i)
      generalize apA T d = t at hR HN HD t0 t1 t2 t3 HSA HSS
      clear hf hR hf0 hf1 hG s1 s2 hlen hlx hq hj1 hSS hgl hgl2 e0 e1 e2 e3 hm5 z0 z1 z2 z3 zf
      go_upto_region 5 with fail
      refine wp_region_L (fun (w' : World) => w'.cell? ⟨w.heap.size + 1, 0, none⟩ = some (.int .i64 t.k) ∧ w'.cell? ⟨w.heap.size + 1, 1, none⟩ = some (.int .i64 t.n) ∧ w'.cell? ⟨w.heap.size + 1, 2, none⟩ = some (.slice la' t.ls.len lc') ∧ w'.cell? ⟨w.heap.size + 1, 3, none⟩ = some (.slice ka' t.ks.len kc') ∧ w'.cell? ⟨MB, 5, none⟩ = some (.slice (some ⟨g, go, none⟩) xs.length gc) ∧ w'.cell? ⟨g, go + q * 4, none⟩ = some (.int .i64 y.k) ∧ w'.cell? ⟨g, go + q * 4 + 1, none⟩ = some (.int .i64 y.n) ∧ w'.cell? ⟨g, go + q * 4 + 2, none⟩ = some (.slice ya y.ls.len yc) ∧ w'.cell? ⟨g, go + q * 4 + 3, none⟩ = some (.slice za y.ks.len zc)) 10 (by kernel_rfl) ?_
      have hH := (show (fun (w' : World) => w'.cell? ⟨w.heap.size + 1, 0, none⟩ = some (.int .i64 t.k) ∧ w'.cell? ⟨w.heap.size + 1, 1, none⟩ = some (.int .i64 t.n) ∧ w'.cell? ⟨w.heap.size + 1, 2, none⟩ = some (.slice la' t.ls.len lc') ∧ w'.cell? ⟨w.heap.size + 1, 3, none⟩ = some (.slice ka' t.ks.len kc') ∧ w'.cell? ⟨MB, 5, none⟩ = some (.slice (some ⟨g, go, none⟩) xs.length gc) ∧ w'.cell? ⟨g, go + q * 4, none⟩ = some (.int .i64 y.k) ∧ w'.cell? ⟨g, go + q * 4 + 1, none⟩ = some (.int .i64 y.n) ∧ w'.cell? ⟨g, go + q * 4 + 2, none⟩ = some (.slice ya y.ls.len yc) ∧ w'.cell? ⟨g, go + q * 4 + 3, none⟩ = some (.slice za y.ks.len zc)) wr.drew from HSS.out)
      refine tkL 0 ?_ hH ?_ ?_
      rotate_left
      · intro w' hSw
        obtain ⟨s0, s1, s2, s3, s4, s5, s6, s7, s8⟩ := hSw
        go_simp
        try with_reducible rfl
      refine tkL 1 ?_ hH ?_ ?_
      rotate_left
      · intro w' hSw
        obtain ⟨s0, s1, s2, s3, s4, s5, s6, s7, s8⟩ := hSw
        go_simp
        try with_reducible rfl
      refine tkL 2 ?_ hH ?_ ?_
      rotate_left
      · intro w' hSw
        obtain ⟨s0, s1, s2, s3, s4, s5, s6, s7, s8⟩ := hSw
        go_simp
        try with_reducible rfl
      refine tkL 3 ?_ hH ?_ ?_
      rotate_left
      · intro w' hSw
        obtain ⟨s0, s1, s2, s3, s4, s5, s6, s7, s8⟩ := hSw
        go_simp
        try with_reducible rfl
      refine tkL 4 ?_ hH ?_ ?_
      rotate_left
      · intro w' hSw
        obtain ⟨s0, s1, s2, s3, s4, s5, s6, s7, s8⟩ := hSw
        go_simp
        try with_reducible rfl
      refine tkL 5 ?_ hH ?_ ?_
      rotate_left
      · intro w' hSw
        obtain ⟨s0, s1, s2, s3, s4, s5, s6, s7, s8⟩ := hSw
        go_simp
        try with_reducible rfl
      refine tkL 6 ?_ hH ?_ ?_
      rotate_left
      · intro w' hSw
        obtain ⟨s0, s1, s2, s3, s4, s5, s6, s7, s8⟩ := hSw
        go_simp
        try with_reducible rfl
      refine tkL 7 ?_ hH ?_ ?_
      rotate_left
      · intro w' hSw
        obtain ⟨s0, s1, s2, s3, s4, s5, s6, s7, s8⟩ := hSw
        go_simp
        try with_reducible rfl
      refine oneL 8 (fun K hK => ?_)
      go_simp
      clear hH
      have hH := HSA.out (.cells #[.int .i64 t.k, .int .i64 t.n, .slice la' t.ls.len lc', .slice ka' t.ks.len kc', .int .i64 y.k, .int .i64 y.n, .slice ya y.ls.len yc, .slice za y.ks.len zc] 30)
      have vf := HVF.out (.cells #[.int .i64 t.k, .int .i64 t.n, .slice la' t.ls.len lc', .slice ka' t.ks.len kc', .int .i64 y.k, .int .i64 y.n, .slice ya y.ls.len yc, .slice za y.ks.len zc] 30)
      refine hK.out _ _ hH ?_
      clear hK K
      refine tkL 9 ?_ hH ?_ ?_
      rotate_left
      · intro w' hSw
        obtain ⟨s0, s1, s2, s3, s4, s5, s6, s7, s8⟩ := hSw
        go_simp
        try with_reducible rfl
      refine lastL (fun K hK => ?_)
      obtain ⟨s0, s1, s2, s3, s4, s5, s6, s7, s8⟩ := hH
      go_simp
      refine hK.out _ _ ?_
      clear hK K
      try simp only [Act.put, List.setIfInBounds_toArray, List.set_cons_zero, List.set_cons_succ]
      refine wpAnyL_done (by kernel_rfl) ?_ _
      clear s0 s1 s2 s3 s4 s5 s6 s7 s8 vf
      go_wp2_with fail
      go_roundw
      case rel => exact ⟨d ++ [y], r', none, 0, some ⟨wr.heap.size, 0, none⟩, 2, by rw [HQ.out], HSN, Lib.hid (by rw [HD.out]; exact HN.out)⟩
      case measure => simp [intOf]
end Go.Proofs.YtnfhpombnbpdcaaGreat
