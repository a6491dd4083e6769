/- Yunf. No condition but those that stand in each statement. -/
import Derived.Deep.RegionHeld3
import Derived.Deep.DeepCutAuto
import Derived.Test.YtnfhpombnbpdcaaGreatZQ37
import Derived.Test.YtnfhpombnbpdcaaGreatZQ39
namespace Go.Proofs.YtnfhpombnbpdcaaGreat
open Go.RowKit
def UfP (E : List Dc) (B lo MB : Nat) (ea : Option Addr) (cap : Nat) (T : Tm) (G : Ft) (n : Nat) (w : World) (e : Ending) (w' : World) : Prop := match unf (E.map Dc.dl) T with
  | none => e = .returned (.tuple #[.bool false, .int .i64 0]) ∧ AcP MB lo w w' ∧ Mi B lo MB ea E.length cap T G n w'
  | some v => StP B lo MB ea E.length cap (qA T.ls .nil v) G n w e w'
theorem UfP.no {E : List Dc} {B lo MB : Nat} {ea : Option Addr} {cap : Nat} {T : Tm} {G : Ft} {n : Nat} {w w' : World} (hu : unf (E.map Dc.dl) T = none) (h : Mi B lo MB ea E.length cap T G n w) (hb : Below w.heap.size w w') : UfP E B lo MB ea cap T G n w (.returned (.tuple #[.bool false, .int .i64 0])) w' := by
  unfold UfP
  rw [hu]
  obtain ⟨la, lc, ka, kc, av, h⟩ := h
  exact ⟨rfl, AcP.of hb, la, lc, ka, kc, av, h.later hb⟩
def UfM (w : World) (MB nv lv i : Nat) (la : Option Addr) (L lc : Nat) (wx : World) : Prop := Below w.heap.size w wx ∧ wx.cell? ⟨w.heap.size, 0, none⟩ = some (.pointer (some ⟨MB, 0, none⟩)) ∧ wx.cell? ⟨nv, 0, none⟩ = some (.int .i64 i) ∧ wx.cell? ⟨lv, 0, none⟩ = some (.slice la L lc) ∧ w.heap.size ≤ nv ∧ w.heap.size ≤ lv
theorem UfM.mk {w w1 wx : World} {MB nv lv i : Nat} {la : Option Addr} {L lc : Nat} (h1 : Below w.heap.size w w1) (h2 : Below w1.heap.size w1 wx) (hv : w1.cell? ⟨w.heap.size, 0, none⟩ = some (.pointer (some ⟨MB, 0, none⟩))) (hn : wx.cell? ⟨nv, 0, none⟩ = some (.int .i64 i)) (hl : wx.cell? ⟨lv, 0, none⟩ = some (.slice la L lc)) (q1 : w1.heap.size ≤ nv) (q2 : w1.heap.size ≤ lv) : UfM w MB nv lv i la L lc wx :=
  ⟨Below.step h1 h2 (Nat.le_refl _), (h2.cell (World.block_lt_of_cell? w1 _ hv)).trans hv, hn, hl, Nat.le_trans h1.size q1, Nat.le_trans h1.size q2⟩
set_option maxRecDepth 100000 in
set_option maxHeartbeats 8000000 in
theorem yUnf_any (E : List Dc) (B lo MB : Nat) (ea : Option Addr) (cap : Nat) (T : Tm) (G : Ft) (n : Nat) (hn5 : n ≤ 100000) (w : World) (h : Mi B lo MB ea E.length cap T G n w) (hE : DsIn w (· < B) E ea cap) (h3 : T.k = 3) (hn : 0 ≤ T.n) :
    Calls Tryz.prog 56 #[.pointer (some ⟨MB, 0, none⟩)] w (UfP E B lo MB ea cap T G n w) := by
  have HM := Lib.hid h
  obtain ⟨la, lc, ka, kc, av, h⟩ := h
  obtain ⟨⟨m0, m1, m2, m3, m4, m5, m6⟩, mf, ml⟩ := h.cells
  obtain ⟨i, hi⟩ := Int.eq_ofNat_of_zero_le hn
  have hlen := hE.len
  rw [hi] at m2
  have HIE := Lib.hid hi
  have H3 := Lib.hid h3
  have HE := Lib.hid hE
  obtain ⟨w1, hw1⟩ : ∃ w1, w1 = w.alloc (.cells #[.pointer (some ⟨MB, 0, none⟩)] 79) := ⟨_, rfl⟩
  have hb1 : Below w.heap.size w w1 := by rw [hw1]; exact (Below.refl _ _).alloc (Nat.le_refl _) _
  have hz1 : w1.heap.size = w.heap.size + 1 := by rw [hw1]; simp
  have hv1 : w1.cell? ⟨w.heap.size, 0, none⟩ = some (.pointer (some ⟨MB, 0, none⟩)) := by rw [hw1]; exact cell_at (heap_new w _) 0
  have k1 : ∀ p v, w.cell? p = some v → w1.cell? p = some v := fun p v h => (hb1.cell (World.block_lt_of_cell? w p h)).trans h
  have m0 := k1 _ _ m0
  have m1 := k1 _ _ m1
  have m2 := k1 _ _ m2
  have m3 := k1 _ _ m3
  have m4 := k1 _ _ m4
  have al : ∀ (p : Addr) (v : Value) (os : Obj), w1.cell? p = some v → (w1.alloc os).cell? p = some v := fun p v os h => (((Below.refl w1.heap.size w1).alloc (Nat.le_refl _) os).cell (World.block_lt_of_cell? w1 p h)).trans h
  have al2 : ∀ (p : Addr) (v : Value) (os os' : Obj), w1.cell? p = some v → ((w1.alloc os).alloc os').cell? p = some v := fun p v os os' h => ((((Below.refl w1.heap.size w1).alloc (Nat.le_refl _) os).alloc (by simp) os').cell (World.block_lt_of_cell? w1 p h)).trans h
  have hv1a := fun cs => al _ _ (.cells cs 3) hv1
  have hv1b := fun cs => al _ _ (.cells cs 27) hv1
  have hv1c := fun cs cs' => al2 _ _ (.cells cs 3) (.cells cs' 27) hv1
  have hv1d := fun cs cs' => al2 _ _ (.cells cs 27) (.cells cs' 3) hv1
  have m2a := fun cs => al _ _ (.cells cs 3) m2
  have m2b := fun cs => al _ _ (.cells cs 27) m2
  have m2c := fun cs cs' => al2 _ _ (.cells cs 3) (.cells cs' 27) m2
  have m2d := fun cs cs' => al2 _ _ (.cells cs 27) (.cells cs' 3) m2
  have m3a := fun cs => al _ _ (.cells cs 3) m3
  have m3b := fun cs => al _ _ (.cells cs 27) m3
  have m3c := fun cs cs' => al2 _ _ (.cells cs 3) (.cells cs' 27) m3
  have m3d := fun cs cs' => al2 _ _ (.cells cs 27) (.cells cs' 3) m3
  have HB1 := Lib.hid hb1
  have HW1 := Lib.hid hw1
  have HV1 := Lib.hid hv1
  have HZ1 := Lib.hid hz1
  -- what is asked behind the two variables
  have HST : Hid (∀ (hi : i < E.length) (W : World) (nv lv : Nat) (eb eo : Nat), ea = some ⟨eb, eo, none⟩ → Below w.heap.size w W → W.cell? ⟨w.heap.size, 0, none⟩ = some (.pointer (some ⟨MB, 0, none⟩)) → W.cell? ⟨nv, 0, none⟩ = some (.int .i64 i) → W.cell? ⟨lv, 0, none⟩ = some (.slice la T.ls.len lc) → w.heap.size ≤ nv → w.heap.size ≤ lv →
      Calls Tryz.prog 74 #[.pointer (some ⟨MB, 0, none⟩), .func (.func 77) #[] #[.pointer (some ⟨w.heap.size, 0, none⟩), .pointer (some ⟨nv, 0, none⟩), .pointer (some ⟨lv, 0, none⟩)]] W (StP B lo MB ea E.length cap (qA T.ls .nil E[i].va) G n W)) := Lib.hid (fun hi W nv lv eb eo hea hb hc1 hc2 hc3 q1 q2 => by
    subst hea
    have hM := h.later hb
    have hBw : B ≤ w.heap.size := by have := h.2.2.2.2.1; omega
    have hg := Only.set W MB 6 (.int .i64 ((n - 1 : Nat) : Int))
    have kk : ∀ q j, q < W.heap.size → q ≠ MB → (W.setCell ⟨MB, 6, none⟩ (.int .i64 ((n - 1 : Nat) : Int))).cell? ⟨q, j, none⟩ = W.cell? ⟨q, j, none⟩ := fun q j h1 h2 => World.cell?_of_block (w := W) (Only.block hg h1 h2)
    have lt : ∀ q j v, W.cell? ⟨q, j, none⟩ = some v → q < W.heap.size := fun q j v h => World.block_lt_of_cell? W _ h
    obtain ⟨⟨y0, _⟩, _, _⟩ := (hM.burn (n - 1)).cells
    obtain ⟨eb', eo', hee, heb, _, _, _, _, ⟨v0, v1, vl, vc, va, vd, v2, v3, s1, s2⟩⟩ := hE.get hi
    obtain ⟨rfl, rfl⟩ : eb = eb' ∧ eo = eo' := by injection hee with h; injection h with h1 h2; exact ⟨h1, h2⟩
    have hbMB : ∀ q, q < B → (W.setCell ⟨MB, 6, none⟩ (.int .i64 ((n - 1 : Nat) : Int))).heap[q]? = w.heap[q]? := fun q hq => (Only.block hg (by have := hb.size; omega) (by have := h.2.2.2.2.1; omega)).trans (hb.block q (by omega))
    have kb : ∀ j v, w.cell? ⟨eb, j, none⟩ = some v → (W.setCell ⟨MB, 6, none⟩ (.int .i64 ((n - 1 : Nat) : Int))).cell? ⟨eb, j, none⟩ = some v := fun j v h => (World.cell?_of_block (w := w) (a := ⟨eb, j, none⟩) (hbMB eb heb)).trans h
    have hq : ∀ x, Mx B lo w av x → x < w.heap.size := fun x hx => hx.2.1
    have hk : ∀ x, Mx B lo w av x → (W.setCell ⟨MB, 6, none⟩ (.int .i64 ((n - 1 : Nat) : Int))).heap[x]? = w.heap[x]? := fun x hx => (Only.block hg (Nat.lt_of_lt_of_le hx.2.1 hb.size) (hx.off h.2.2.2.2.1 h.2.2.2.2.2.1)).trans (hb.block x hx.2.1)
    exact yStep_yUnf1 w.heap.size nv lv B lo MB _ _ cap T (qA T.ls .nil E[i].va) G n hn5 _ _ _ _ _ W hM
      (yUnf1_any w.heap.size nv lv MB eb eo i E.length cap E[i].va T.ls vl va la vc vd lc w.heap.size _ ((kk _ _ (lt _ _ _ hc1) (by omega)).trans hc1) y0 ((kk _ _ (lt _ _ _ hc2) (by omega)).trans hc2) hi ⟨kb _ _ v0, kb _ _ v1, kb _ _ v2, kb _ _ v3⟩ ((kk _ _ (lt _ _ _ hc3) (by omega)).trans hc3)
        ((s1.keep hbMB).weak (fun q hq => by omega)) (s2.turn hbMB (fun q hq => by omega)) ((h.2.1.keep hk).weak hq) (by rw [World.size_setCell]; exact hb.size)))
  have HK : Hid (∀ W, Below w.heap.size w W → W.cell? ⟨MB, 0, none⟩ = some (.slice ea E.length cap)) := Lib.hid (fun W hb => ((h.later hb).cells).1.1)
  have HEW : Hid (∀ W, Below w.heap.size w W → DsIn W (· < B) E ea cap) := Lib.hid (fun W hb => hE.below (hb.mono (by have := h.2.2.2.2.1; omega)))
  clear h hE h3 hn hi k1 al al2 hb1 hw1 hz1 m0 m1 m4 m5 m6 mf ml
  go_enter Tryz.func56, Tryz.ntmps56
  go_upto_region 1 with fail
  rw [← HW1.out]
  clear HW1
  go_cut [4, 5] from 6 to 15 (fun s4 s5 wx => ∃ (nv lv : Nat), s4 = .pointer (some ⟨nv, 0, none⟩) ∧ s5 = .pointer (some ⟨lv, 0, none⟩) ∧ Hid (UfM w MB nv lv i la T.ls.len lc wx))
  case first =>
    go_region
    all_goals go_wp2_with fail
    all_goals go_meet
    all_goals first
      | exact ⟨w1.heap.size, w1.heap.size + 1, rfl, rfl, Lib.hid (UfM.mk HB1.out ((((Below.refl _ _).alloc (Nat.le_refl _) (.cells #[.int .i64 i] 3)).alloc (by simp) (.cells #[.slice la T.ls.len lc] 27)).drew) HV1.out (cell_at ((heap_old (w1.alloc (.cells #[.int .i64 i] 3)) (.cells #[.slice la T.ls.len lc] 27) (by simp)).trans (heap_new w1 (.cells #[.int .i64 i] 3))) 0) (cell_at (heap_second w1 (.cells #[.int .i64 i] 3) (.cells #[.slice la T.ls.len lc] 27)) 0) (by omega) (by omega))⟩
      | exact ⟨w1.heap.size + 1, w1.heap.size, rfl, rfl, Lib.hid (UfM.mk HB1.out ((((Below.refl _ _).alloc (Nat.le_refl _) (.cells #[.slice la T.ls.len lc] 27)).alloc (by simp) (.cells #[.int .i64 i] 3)).drew) HV1.out (cell_at (heap_second w1 (.cells #[.slice la T.ls.len lc] 27) (.cells #[.int .i64 i] 3)) 0) (cell_at ((heap_old (w1.alloc (.cells #[.slice la T.ls.len lc] 27)) (.cells #[.int .i64 i] 3) (by simp)).trans (heap_new w1 (.cells #[.slice la T.ls.len lc] 27))) 0) (by omega) (by omega))⟩
  case rest =>
    obtain ⟨nv, lv, rfl, rfl, hX⟩ := hcut
    clear hv1 hv1a hv1b hv1c hv1d m2 m2a m2b m2c m2d m3 m3a m3b m3c m3d
    obtain ⟨W2, hW2⟩ : ∃ W, W = wc := ⟨_, rfl⟩
    rw [← hW2] at hX ⊢
    clear hW2
    obtain ⟨hb2, hcm, hcn, hcl, q1, q2⟩ := hX.out
    have HB2 := Lib.hid hb2
    have hm0 := HK.out _ HB2.out
    have hE2 := HEW.out _ HB2.out
    clear hb2 hX
    by_cases hi : i < E.length
    · obtain ⟨eb, eo, rfl, heb, g0, ⟨ca, cl, cc, g1, gx⟩, gy, g6, gz⟩ := hE2.get hi
      have HU := unf_get (E := E) (t := T) H3.out HIE.out hi
      have hii : (i : Int) < (E.length : Int) := by omega
      have hij : ¬ ((E.length : Int) ≤ (i : Int)) := by omega
      have hik : decide (E.length ≤ i) = false := decide_eq_false (by omega)
      have hin : decide ((E.length : Int) ≤ (i : Int)) = false := decide_eq_false (by omega)
      have hil : ¬ (E.length ≤ i) := by omega
      have HS9 := Lib.hid (HST.out hi)
      clear gx gy gz g1 heb
      generalize E[i] = d at g0 g6 HU HS9
      cases hh : d.has with
      | false =>
        have HNO : Hid (∀ w', Below w.heap.size w w' → UfP E B lo MB (some ⟨eb, eo, none⟩) cap T G n w (.returned (.tuple #[.bool false, .int .i64 0])) w') := Lib.hid (fun w' hb => UfP.no (by rw [HU, hh]; rfl) HM.out hb)
        rw [hh] at g6
        clear HU hE2 hh HST HS9 HM q1 q2
        go_upto_region 2 with fail
        refine wp_region_held_drew (S := fun (w' : World) => w'.cell? ⟨w.heap.size, 0, none⟩ = some (.pointer (some ⟨MB, 0, none⟩)) ∧ w'.cell? ⟨nv, 0, none⟩ = some (.int .i64 i) ∧ w'.cell? ⟨lv, 0, none⟩ = some (.slice la T.ls.len lc) ∧ w'.cell? ⟨MB, 0, none⟩ = some (.slice (some ⟨eb, eo, none⟩) E.length cap) ∧ w'.cell? ⟨eb, eo + i * 11, none⟩ = some (.int .i64 d.p) ∧ w'.cell? ⟨eb, eo + i * 11 + 6, none⟩ = some (.bool false)) (by kernel_rfl) (⟨hcm, hcn, hcl, hm0, g0, g6⟩) (fun hH => ?_)
        refine tkH 0 ?_ hH ?_ ?_
        rotate_left
        · intro w' hSw
          obtain ⟨s0, s1, s2, s3, s4, s5⟩ := hSw
          go_simp
          try with_reducible rfl
        refine tkH 1 ?_ hH ?_ ?_
        rotate_left
        · intro w' hSw
          obtain ⟨s0, s1, s2, s3, s4, s5⟩ := hSw
          go_simp
          try with_reducible rfl
        refine tkH 2 ?_ hH ?_ ?_
        rotate_left
        · intro w' hSw
          obtain ⟨s0, s1, s2, s3, s4, s5⟩ := hSw
          go_simp
          try with_reducible rfl
        refine tkH 3 ?_ hH ?_ ?_
        rotate_left
        · intro w' hSw
          obtain ⟨s0, s1, s2, s3, s4, s5⟩ := hSw
          go_simp
          try with_reducible rfl
        refine tkH 4 ?_ hH ?_ ?_
        rotate_left
        · intro w' hSw
          obtain ⟨s0, s1, s2, s3, s4, s5⟩ := hSw
          go_simp
          try with_reducible rfl
        refine tkH 5 ?_ hH ?_ ?_
        rotate_left
        · intro w' hSw
          obtain ⟨s0, s1, s2, s3, s4, s5⟩ := hSw
          go_simp
          try with_reducible rfl
        refine tkH 6 ?_ hH ?_ ?_
        rotate_left
        · intro w' hSw
          obtain ⟨s0, s1, s2, s3, s4, s5⟩ := hSw
          go_simp
          try with_reducible rfl
        refine tkH 7 ?_ hH ?_ ?_
        rotate_left
        · intro w' hSw
          obtain ⟨s0, s1, s2, s3, s4, s5⟩ := hSw
          go_simp
          try with_reducible rfl
        refine tkH 8 ?_ hH ?_ ?_
        rotate_left
        · intro w' hSw
          obtain ⟨s0, s1, s2, s3, s4, s5⟩ := hSw
          go_simp
          try with_reducible rfl
        refine tkH 9 ?_ hH ?_ ?_
        rotate_left
        · intro w' hSw
          obtain ⟨s0, s1, s2, s3, s4, s5⟩ := hSw
          go_simp
          try with_reducible rfl
        refine tkH 10 ?_ hH ?_ ?_
        rotate_left
        · intro w' hSw
          obtain ⟨s0, s1, s2, s3, s4, s5⟩ := hSw
          go_simp
          try with_reducible rfl
        refine tkH 11 ?_ hH ?_ ?_
        rotate_left
        · intro w' hSw
          obtain ⟨s0, s1, s2, s3, s4, s5⟩ := hSw
          go_simp
          try with_reducible rfl
        refine tkH 12 ?_ hH ?_ ?_
        rotate_left
        · intro w' hSw
          obtain ⟨s0, s1, s2, s3, s4, s5⟩ := hSw
          go_simp
          try with_reducible rfl
        refine tkH 13 ?_ hH ?_ ?_
        rotate_left
        · intro w' hSw
          obtain ⟨s0, s1, s2, s3, s4, s5⟩ := hSw
          go_simp
          try with_reducible rfl
        refine tkH 14 ?_ hH ?_ ?_
        rotate_left
        · intro w' hSw
          obtain ⟨s0, s1, s2, s3, s4, s5⟩ := hSw
          go_simp
          try with_reducible rfl
        refine tkH 15 ?_ hH ?_ ?_
        rotate_left
        · intro w' hSw
          obtain ⟨s0, s1, s2, s3, s4, s5⟩ := hSw
          go_simp
          try with_reducible rfl
        refine tkH 16 ?_ hH ?_ ?_
        rotate_left
        · intro w' hSw
          obtain ⟨s0, s1, s2, s3, s4, s5⟩ := hSw
          go_simp
          try with_reducible rfl
        refine tkH 17 ?_ hH ?_ ?_
        rotate_left
        · intro w' hSw
          obtain ⟨s0, s1, s2, s3, s4, s5⟩ := hSw
          go_simp
          try with_reducible rfl
        refine tkH 18 ?_ hH ?_ ?_
        rotate_left
        · intro w' hSw
          obtain ⟨s0, s1, s2, s3, s4, s5⟩ := hSw
          go_simp
          try with_reducible rfl
        refine tuH 19 hH ?_
        refine tuH 20 hH ?_
        refine tuH 21 hH ?_
        refine tuH 22 hH ?_
        refine tuH 23 hH ?_
        refine tuH 24 hH ?_
        refine tuH 25 hH ?_
        refine tuH 26 hH ?_
        refine tuH 27 hH ?_
        refine tuH 28 hH ?_
        refine tuH 29 hH ?_
        refine tkH 30 ?_ hH ?_ ?_
        rotate_left
        · intro w' hSw
          obtain ⟨s0, s1, s2, s3, s4, s5⟩ := hSw
          go_simp
          try with_reducible rfl
        try simp only [Act.put, List.setIfInBounds_toArray, List.set_cons_zero, List.set_cons_succ]
        refine wpAnyH_done (by kernel_rfl) ?_ _
        clear hH
        go_wp2_with fail
        refine bodyPost_ret (v := .tuple #[.bool false, .int .i64 0]) (by simp [results, Tryz.results56, go_sem]) rfl ?_
        exact HNO.out _ HB2.out.drew
      | true =>
        rw [hh] at g6
        by_cases hp : (T.ls.len : Int) = d.p
        · have HUS : Hid (unf (E.map Dc.dl) T = some d.va) := Lib.hid (by rw [HU, hh, if_pos ⟨rfl, hp⟩])
          have dp : (d.p == (T.ls.len : Int)) = true := beq_iff_eq.2 hp.symm
          have dp' : (d.p != (T.ls.len : Int)) = false := by simp [hp]
          have HS2 := Lib.hid (HS9.out W2.drew nv lv eb eo rfl HB2.out.drew hcm hcn hcl q1 q2)
          clear HU hE2 hh HST HS9 HM hp q1 q2
          go_upto_region 2 with fail
          refine wp_region_held_drew (S := fun (w' : World) => w'.cell? ⟨w.heap.size, 0, none⟩ = some (.pointer (some ⟨MB, 0, none⟩)) ∧ w'.cell? ⟨nv, 0, none⟩ = some (.int .i64 i) ∧ w'.cell? ⟨lv, 0, none⟩ = some (.slice la T.ls.len lc) ∧ w'.cell? ⟨MB, 0, none⟩ = some (.slice (some ⟨eb, eo, none⟩) E.length cap) ∧ w'.cell? ⟨eb, eo + i * 11, none⟩ = some (.int .i64 d.p) ∧ w'.cell? ⟨eb, eo + i * 11 + 6, none⟩ = some (.bool true)) (by kernel_rfl) (⟨hcm, hcn, hcl, hm0, g0, g6⟩) (fun hH => ?_)
          refine tkH 0 ?_ hH ?_ ?_
          rotate_left
          · intro w' hSw
            obtain ⟨s0, s1, s2, s3, s4, s5⟩ := hSw
            go_simp
            try with_reducible rfl
          refine tkH 1 ?_ hH ?_ ?_
          rotate_left
          · intro w' hSw
            obtain ⟨s0, s1, s2, s3, s4, s5⟩ := hSw
            go_simp
            try with_reducible rfl
          refine tkH 2 ?_ hH ?_ ?_
          rotate_left
          · intro w' hSw
            obtain ⟨s0, s1, s2, s3, s4, s5⟩ := hSw
            go_simp
            try with_reducible rfl
          refine tkH 3 ?_ hH ?_ ?_
          rotate_left
          · intro w' hSw
            obtain ⟨s0, s1, s2, s3, s4, s5⟩ := hSw
            go_simp
            try with_reducible rfl
          refine tkH 4 ?_ hH ?_ ?_
          rotate_left
          · intro w' hSw
            obtain ⟨s0, s1, s2, s3, s4, s5⟩ := hSw
            go_simp
            try with_reducible rfl
          refine tkH 5 ?_ hH ?_ ?_
          rotate_left
          · intro w' hSw
            obtain ⟨s0, s1, s2, s3, s4, s5⟩ := hSw
            go_simp
            try with_reducible rfl
          refine tkH 6 ?_ hH ?_ ?_
          rotate_left
          · intro w' hSw
            obtain ⟨s0, s1, s2, s3, s4, s5⟩ := hSw
            go_simp
            try with_reducible rfl
          refine tkH 7 ?_ hH ?_ ?_
          rotate_left
          · intro w' hSw
            obtain ⟨s0, s1, s2, s3, s4, s5⟩ := hSw
            go_simp
            try with_reducible rfl
          refine tkH 8 ?_ hH ?_ ?_
          rotate_left
          · intro w' hSw
            obtain ⟨s0, s1, s2, s3, s4, s5⟩ := hSw
            go_simp
            try with_reducible rfl
          refine tkH 9 ?_ hH ?_ ?_
          rotate_left
          · intro w' hSw
            obtain ⟨s0, s1, s2, s3, s4, s5⟩ := hSw
            go_simp
            try with_reducible rfl
          refine tkH 10 ?_ hH ?_ ?_
          rotate_left
          · intro w' hSw
            obtain ⟨s0, s1, s2, s3, s4, s5⟩ := hSw
            go_simp
            try with_reducible rfl
          refine tkH 11 ?_ hH ?_ ?_
          rotate_left
          · intro w' hSw
            obtain ⟨s0, s1, s2, s3, s4, s5⟩ := hSw
            go_simp
            try with_reducible rfl
          refine tkH 12 ?_ hH ?_ ?_
          rotate_left
          · intro w' hSw
            obtain ⟨s0, s1, s2, s3, s4, s5⟩ := hSw
            go_simp
            try with_reducible rfl
          refine tkH 13 ?_ hH ?_ ?_
          rotate_left
          · intro w' hSw
            obtain ⟨s0, s1, s2, s3, s4, s5⟩ := hSw
            go_simp
            try with_reducible rfl
          refine tkH 14 ?_ hH ?_ ?_
          rotate_left
          · intro w' hSw
            obtain ⟨s0, s1, s2, s3, s4, s5⟩ := hSw
            go_simp
            try with_reducible rfl
          refine tkH 15 ?_ hH ?_ ?_
          rotate_left
          · intro w' hSw
            obtain ⟨s0, s1, s2, s3, s4, s5⟩ := hSw
            go_simp
            try with_reducible rfl
          refine tkH 16 ?_ hH ?_ ?_
          rotate_left
          · intro w' hSw
            obtain ⟨s0, s1, s2, s3, s4, s5⟩ := hSw
            go_simp
            try with_reducible rfl
          refine tkH 17 ?_ hH ?_ ?_
          rotate_left
          · intro w' hSw
            obtain ⟨s0, s1, s2, s3, s4, s5⟩ := hSw
            go_simp
            try with_reducible rfl
          refine tkH 18 ?_ hH ?_ ?_
          rotate_left
          · intro w' hSw
            obtain ⟨s0, s1, s2, s3, s4, s5⟩ := hSw
            go_simp
            try with_reducible rfl
          refine tkH 19 ?_ hH ?_ ?_
          rotate_left
          · intro w' hSw
            obtain ⟨s0, s1, s2, s3, s4, s5⟩ := hSw
            go_simp
            try with_reducible rfl
          refine tkH 20 ?_ hH ?_ ?_
          rotate_left
          · intro w' hSw
            obtain ⟨s0, s1, s2, s3, s4, s5⟩ := hSw
            go_simp
            try with_reducible rfl
          refine tkH 21 ?_ hH ?_ ?_
          rotate_left
          · intro w' hSw
            obtain ⟨s0, s1, s2, s3, s4, s5⟩ := hSw
            go_simp
            try with_reducible rfl
          refine tkH 22 ?_ hH ?_ ?_
          rotate_left
          · intro w' hSw
            obtain ⟨s0, s1, s2, s3, s4, s5⟩ := hSw
            go_simp
            try with_reducible rfl
          refine tkH 23 ?_ hH ?_ ?_
          rotate_left
          · intro w' hSw
            obtain ⟨s0, s1, s2, s3, s4, s5⟩ := hSw
            go_simp
            try with_reducible rfl
          refine tkH 24 ?_ hH ?_ ?_
          rotate_left
          · intro w' hSw
            obtain ⟨s0, s1, s2, s3, s4, s5⟩ := hSw
            go_simp
            try with_reducible rfl
          refine tkH 25 ?_ hH ?_ ?_
          rotate_left
          · intro w' hSw
            obtain ⟨s0, s1, s2, s3, s4, s5⟩ := hSw
            go_simp
            try with_reducible rfl
          refine tkH 26 ?_ hH ?_ ?_
          rotate_left
          · intro w' hSw
            obtain ⟨s0, s1, s2, s3, s4, s5⟩ := hSw
            go_simp
            try with_reducible rfl
          refine tkH 27 ?_ hH ?_ ?_
          rotate_left
          · intro w' hSw
            obtain ⟨s0, s1, s2, s3, s4, s5⟩ := hSw
            go_simp
            try with_reducible rfl
          refine tkH 28 ?_ hH ?_ ?_
          rotate_left
          · intro w' hSw
            obtain ⟨s0, s1, s2, s3, s4, s5⟩ := hSw
            go_simp
            try with_reducible rfl
          refine tkH 29 ?_ hH ?_ ?_
          rotate_left
          · intro w' hSw
            obtain ⟨s0, s1, s2, s3, s4, s5⟩ := hSw
            go_simp
            try with_reducible rfl
          refine tkH 30 ?_ hH ?_ ?_
          rotate_left
          · intro w' hSw
            obtain ⟨s0, s1, s2, s3, s4, s5⟩ := hSw
            go_simp
            try with_reducible rfl
          try simp only [Act.put, List.setIfInBounds_toArray, List.set_cons_zero, List.set_cons_succ]
          refine wpAnyH_done (by kernel_rfl) ?_ _
          clear hH
          go_wp2_with fail
          refine HS2.out.mono ?_
          intro e w3 hq
          have HP : Hid (UfP E B lo MB (some ⟨eb, eo, none⟩) cap T G n w e w3) := Lib.hid (by unfold UfP; rw [HUS.out]; exact hq.after (AcP.of HB2.out.drew))
          rcases hq with ⟨_, ⟨_, rfl⟩ | ⟨_, _, rfl, _⟩ | ⟨_, _, rfl⟩⟩
          · go_wp2_with fail
            refine bodyPost_ret (v := .tuple #[.bool false, .int .i64 40]) (by simp [results, Tryz.results56, go_sem]) rfl ?_
            exact HP.out
          · go_wp2_with fail
            refine bodyPost_ret (v := .tuple #[.bool true, .int .i64 0]) (by simp [results, Tryz.results56, go_sem]) rfl ?_
            exact HP.out
          · go_wp2_with fail
            refine bodyPost_ret (v := .tuple #[.bool false, .int .i64 (qA T.ls .nil d.va).2]) (by simp [results, Tryz.results56, go_sem]) rfl ?_
            exact HP.out
        · have HNO : Hid (∀ w', Below w.heap.size w w' → UfP E B lo MB (some ⟨eb, eo, none⟩) cap T G n w (.returned (.tuple #[.bool false, .int .i64 0])) w') := Lib.hid (fun w' hb => UfP.no (by rw [HU, hh, if_neg (fun h => hp h.2)]) HM.out hb)
          have dp' : (d.p != (T.ls.len : Int)) = true := by rw [bne_iff_ne]; exact fun h => hp h.symm
          clear HU hE2 hh HST HS9 HM hp q1 q2
          go_upto_region 2 with fail
          refine wp_region_held_drew (S := fun (w' : World) => w'.cell? ⟨w.heap.size, 0, none⟩ = some (.pointer (some ⟨MB, 0, none⟩)) ∧ w'.cell? ⟨nv, 0, none⟩ = some (.int .i64 i) ∧ w'.cell? ⟨lv, 0, none⟩ = some (.slice la T.ls.len lc) ∧ w'.cell? ⟨MB, 0, none⟩ = some (.slice (some ⟨eb, eo, none⟩) E.length cap) ∧ w'.cell? ⟨eb, eo + i * 11, none⟩ = some (.int .i64 d.p) ∧ w'.cell? ⟨eb, eo + i * 11 + 6, none⟩ = some (.bool true)) (by kernel_rfl) (⟨hcm, hcn, hcl, hm0, g0, g6⟩) (fun hH => ?_)
          refine tkH 0 ?_ hH ?_ ?_
          rotate_left
          · intro w' hSw
            obtain ⟨s0, s1, s2, s3, s4, s5⟩ := hSw
            go_simp
            try with_reducible rfl
          refine tkH 1 ?_ hH ?_ ?_
          rotate_left
          · intro w' hSw
            obtain ⟨s0, s1, s2, s3, s4, s5⟩ := hSw
            go_simp
            try with_reducible rfl
          refine tkH 2 ?_ hH ?_ ?_
          rotate_left
          · intro w' hSw
            obtain ⟨s0, s1, s2, s3, s4, s5⟩ := hSw
            go_simp
            try with_reducible rfl
          refine tkH 3 ?_ hH ?_ ?_
          rotate_left
          · intro w' hSw
            obtain ⟨s0, s1, s2, s3, s4, s5⟩ := hSw
            go_simp
            try with_reducible rfl
          refine tkH 4 ?_ hH ?_ ?_
          rotate_left
          · intro w' hSw
            obtain ⟨s0, s1, s2, s3, s4, s5⟩ := hSw
            go_simp
            try with_reducible rfl
          refine tkH 5 ?_ hH ?_ ?_
          rotate_left
          · intro w' hSw
            obtain ⟨s0, s1, s2, s3, s4, s5⟩ := hSw
            go_simp
            try with_reducible rfl
          refine tkH 6 ?_ hH ?_ ?_
          rotate_left
          · intro w' hSw
            obtain ⟨s0, s1, s2, s3, s4, s5⟩ := hSw
            go_simp
            try with_reducible rfl
          refine tkH 7 ?_ hH ?_ ?_
          rotate_left
          · intro w' hSw
            obtain ⟨s0, s1, s2, s3, s4, s5⟩ := hSw
            go_simp
            try with_reducible rfl
          refine tkH 8 ?_ hH ?_ ?_
          rotate_left
          · intro w' hSw
            obtain ⟨s0, s1, s2, s3, s4, s5⟩ := hSw
            go_simp
            try with_reducible rfl
          refine tkH 9 ?_ hH ?_ ?_
          rotate_left
          · intro w' hSw
            obtain ⟨s0, s1, s2, s3, s4, s5⟩ := hSw
            go_simp
            try with_reducible rfl
          refine tkH 10 ?_ hH ?_ ?_
          rotate_left
          · intro w' hSw
            obtain ⟨s0, s1, s2, s3, s4, s5⟩ := hSw
            go_simp
            try with_reducible rfl
          refine tkH 11 ?_ hH ?_ ?_
          rotate_left
          · intro w' hSw
            obtain ⟨s0, s1, s2, s3, s4, s5⟩ := hSw
            go_simp
            try with_reducible rfl
          refine tkH 12 ?_ hH ?_ ?_
          rotate_left
          · intro w' hSw
            obtain ⟨s0, s1, s2, s3, s4, s5⟩ := hSw
            go_simp
            try with_reducible rfl
          refine tkH 13 ?_ hH ?_ ?_
          rotate_left
          · intro w' hSw
            obtain ⟨s0, s1, s2, s3, s4, s5⟩ := hSw
            go_simp
            try with_reducible rfl
          refine tkH 14 ?_ hH ?_ ?_
          rotate_left
          · intro w' hSw
            obtain ⟨s0, s1, s2, s3, s4, s5⟩ := hSw
            go_simp
            try with_reducible rfl
          refine tkH 15 ?_ hH ?_ ?_
          rotate_left
          · intro w' hSw
            obtain ⟨s0, s1, s2, s3, s4, s5⟩ := hSw
            go_simp
            try with_reducible rfl
          refine tkH 16 ?_ hH ?_ ?_
          rotate_left
          · intro w' hSw
            obtain ⟨s0, s1, s2, s3, s4, s5⟩ := hSw
            go_simp
            try with_reducible rfl
          refine tkH 17 ?_ hH ?_ ?_
          rotate_left
          · intro w' hSw
            obtain ⟨s0, s1, s2, s3, s4, s5⟩ := hSw
            go_simp
            try with_reducible rfl
          refine tkH 18 ?_ hH ?_ ?_
          rotate_left
          · intro w' hSw
            obtain ⟨s0, s1, s2, s3, s4, s5⟩ := hSw
            go_simp
            try with_reducible rfl
          refine tkH 19 ?_ hH ?_ ?_
          rotate_left
          · intro w' hSw
            obtain ⟨s0, s1, s2, s3, s4, s5⟩ := hSw
            go_simp
            try with_reducible rfl
          refine tkH 20 ?_ hH ?_ ?_
          rotate_left
          · intro w' hSw
            obtain ⟨s0, s1, s2, s3, s4, s5⟩ := hSw
            go_simp
            try with_reducible rfl
          refine tkH 21 ?_ hH ?_ ?_
          rotate_left
          · intro w' hSw
            obtain ⟨s0, s1, s2, s3, s4, s5⟩ := hSw
            go_simp
            try with_reducible rfl
          refine tkH 22 ?_ hH ?_ ?_
          rotate_left
          · intro w' hSw
            obtain ⟨s0, s1, s2, s3, s4, s5⟩ := hSw
            go_simp
            try with_reducible rfl
          refine tkH 23 ?_ hH ?_ ?_
          rotate_left
          · intro w' hSw
            obtain ⟨s0, s1, s2, s3, s4, s5⟩ := hSw
            go_simp
            try with_reducible rfl
          refine tkH 24 ?_ hH ?_ ?_
          rotate_left
          · intro w' hSw
            obtain ⟨s0, s1, s2, s3, s4, s5⟩ := hSw
            go_simp
            try with_reducible rfl
          refine tkH 25 ?_ hH ?_ ?_
          rotate_left
          · intro w' hSw
            obtain ⟨s0, s1, s2, s3, s4, s5⟩ := hSw
            go_simp
            try with_reducible rfl
          refine tkH 26 ?_ hH ?_ ?_
          rotate_left
          · intro w' hSw
            obtain ⟨s0, s1, s2, s3, s4, s5⟩ := hSw
            go_simp
            try with_reducible rfl
          refine tkH 27 ?_ hH ?_ ?_
          rotate_left
          · intro w' hSw
            obtain ⟨s0, s1, s2, s3, s4, s5⟩ := hSw
            go_simp
            try with_reducible rfl
          refine tkH 28 ?_ hH ?_ ?_
          rotate_left
          · intro w' hSw
            obtain ⟨s0, s1, s2, s3, s4, s5⟩ := hSw
            go_simp
            try with_reducible rfl
          refine tkH 29 ?_ hH ?_ ?_
          rotate_left
          · intro w' hSw
            obtain ⟨s0, s1, s2, s3, s4, s5⟩ := hSw
            go_simp
            try with_reducible rfl
          refine tkH 30 ?_ hH ?_ ?_
          rotate_left
          · intro w' hSw
            obtain ⟨s0, s1, s2, s3, s4, s5⟩ := hSw
            go_simp
            try with_reducible rfl
          try simp only [Act.put, List.setIfInBounds_toArray, List.set_cons_zero, List.set_cons_succ]
          refine wpAnyH_done (by kernel_rfl) ?_ _
          clear hH
          go_wp2_with fail
          refine bodyPost_ret (v := .tuple #[.bool false, .int .i64 0]) (by simp [results, Tryz.results56, go_sem]) rfl ?_
          exact HNO.out _ HB2.out.drew
    · have HNO : Hid (∀ w', Below w.heap.size w w' → UfP E B lo MB ea cap T G n w (.returned (.tuple #[.bool false, .int .i64 0])) w') := Lib.hid (fun w' hb => UfP.no (unf_out HIE.out hi) HM.out hb)
      have hii : ¬ ((i : Int) < (E.length : Int)) := by omega
      have hij : (E.length : Int) ≤ (i : Int) := by omega
      have hik : decide (E.length ≤ i) = true := decide_eq_true (by omega)
      have hil : E.length ≤ i := by omega
      clear hE2 HST HM hi q1 q2
      go_upto_region 2 with fail
      refine wp_region_held_drew (S := fun (w' : World) => w'.cell? ⟨w.heap.size, 0, none⟩ = some (.pointer (some ⟨MB, 0, none⟩)) ∧ w'.cell? ⟨nv, 0, none⟩ = some (.int .i64 i) ∧ w'.cell? ⟨lv, 0, none⟩ = some (.slice la T.ls.len lc) ∧ w'.cell? ⟨MB, 0, none⟩ = some (.slice ea E.length cap)) (by kernel_rfl) (⟨hcm, hcn, hcl, hm0⟩) (fun hH => ?_)
      refine tkH 0 ?_ hH ?_ ?_
      rotate_left
      · intro w' hSw
        obtain ⟨s0, s1, s2, s3⟩ := hSw
        go_simp
        try with_reducible rfl
      refine tkH 1 ?_ hH ?_ ?_
      rotate_left
      · intro w' hSw
        obtain ⟨s0, s1, s2, s3⟩ := hSw
        go_simp
        try with_reducible rfl
      refine tkH 2 ?_ hH ?_ ?_
      rotate_left
      · intro w' hSw
        obtain ⟨s0, s1, s2, s3⟩ := hSw
        go_simp
        try with_reducible rfl
      refine tkH 3 ?_ hH ?_ ?_
      rotate_left
      · intro w' hSw
        obtain ⟨s0, s1, s2, s3⟩ := hSw
        go_simp
        try with_reducible rfl
      refine tkH 4 ?_ hH ?_ ?_
      rotate_left
      · intro w' hSw
        obtain ⟨s0, s1, s2, s3⟩ := hSw
        go_simp
        try with_reducible rfl
      refine tkH 5 ?_ hH ?_ ?_
      rotate_left
      · intro w' hSw
        obtain ⟨s0, s1, s2, s3⟩ := hSw
        go_simp
        try with_reducible rfl
      refine tkH 6 ?_ hH ?_ ?_
      rotate_left
      · intro w' hSw
        obtain ⟨s0, s1, s2, s3⟩ := hSw
        go_simp
        try with_reducible rfl
      refine tkH 7 ?_ hH ?_ ?_
      rotate_left
      · intro w' hSw
        obtain ⟨s0, s1, s2, s3⟩ := hSw
        go_simp
        try with_reducible rfl
      refine tuH 8 hH ?_
      refine tuH 9 hH ?_
      refine tuH 10 hH ?_
      refine tuH 11 hH ?_
      refine tuH 12 hH ?_
      refine tuH 13 hH ?_
      refine tuH 14 hH ?_
      refine tuH 15 hH ?_
      refine tuH 16 hH ?_
      refine tkH 17 ?_ hH ?_ ?_
      rotate_left
      · intro w' hSw
        obtain ⟨s0, s1, s2, s3⟩ := hSw
        go_simp
        try with_reducible rfl
      refine tkH 18 ?_ hH ?_ ?_
      rotate_left
      · intro w' hSw
        obtain ⟨s0, s1, s2, s3⟩ := hSw
        go_simp
        try with_reducible rfl
      refine tuH 19 hH ?_
      refine tuH 20 hH ?_
      refine tuH 21 hH ?_
      refine tuH 22 hH ?_
      refine tuH 23 hH ?_
      refine tuH 24 hH ?_
      refine tuH 25 hH ?_
      refine tuH 26 hH ?_
      refine tuH 27 hH ?_
      refine tuH 28 hH ?_
      refine tuH 29 hH ?_
      refine tkH 30 ?_ hH ?_ ?_
      rotate_left
      · intro w' hSw
        obtain ⟨s0, s1, s2, s3⟩ := hSw
        go_simp
        try with_reducible rfl
      try simp only [Act.put, List.setIfInBounds_toArray, List.set_cons_zero, List.set_cons_succ]
      refine wpAnyH_done (by kernel_rfl) ?_ _
      clear hH
      go_wp2_with fail
      refine bodyPost_ret (v := .tuple #[.bool false, .int .i64 0]) (by simp [results, Tryz.results56, go_sem]) rfl ?_
      exact HNO.out _ HB2.out.drew
end Go.Proofs.YtnfhpombnbpdcaaGreat
