/- Whead. No condition but those that stand in each statement. -/
import Derived.Deep.CutBlock
import Derived.IntWalk
import Derived.Test.YtnfhpombnbpdcaaGreatZQ37
import Derived.Test.YtnfhpombnbpdcaaGreatZQ46
namespace Go.Proofs.YtnfhpombnbpdcaaGreat
open Go.RowKit
def HdC (E : List Dc) (ea : Option Addr) (cap B M n : Nat) (T : Tm) : Prop := ∀ (la ka : Option Addr) (lc kc : Nat) (Bl : Nat → Nat) (Bh : Nat) (w : World), HdOk w M B Bl Bh → DsIn w (· < B) E ea cap → McAt w M ea E.length cap n 0 → SlIn w (fun b => b < B ∨ (Bl b = 0 ∧ b < Bh)) T.ls la lc → TlIn w (fun b => b < B ∨ (Bl b = 0 ∧ b < Bh)) T.ks ka kc →
 Calls Tryz.prog 31 #[.pointer (some ⟨M, 0, none⟩), .agg #[.int .i64 T.k, .int .i64 T.n, .slice la T.ls.len lc, .slice ka T.ks.len kc]] w (HdPost M ea E.length cap B Bl Bh (hd (E.map Dc.dl) n T) w)
set_option maxRecDepth 100000 in
set_option maxHeartbeats 8000000 in
theorem r16Head_step (E : List Dc) (ea : Option Addr) (cap B M N s : Nat) (hN : N ≤ 100000) (IH : ∀ (m : Nat) (T : Tm), (m < N ∨ (m = N ∧ T.ks.size < s)) → T.oka → HdC E ea cap B M m T) (n : Nat) (T : Tm) (hn : n ≤ N) (hs : n = N → T.ks.size < s + 1) (ht : T.oka) : HdC E ea cap B M n T := by
 intro la ka lc kc Bl Bh w hok hE hm hl hk
 have HS := Lib.hid (HdR.start hok hm hl hk)
 have HOK := Lib.hid hok
 have HE := Lib.hid hE
 have HT := Lib.hid ht
 have HB0 := Lib.hid hs
 have HIH := Lib.hid IH
 have hlt := hok.2.1
 obtain ⟨H0, hH0⟩ : ∃ H0, hd (E.map Dc.dl) n T = H0 := ⟨_, rfl⟩
 rw [hH0]
 have HH0 := Lib.hid hH0
 clear hok hE hm hl hk ht hs IH hH0
 go_enter Tryz.func31, Tryz.ntmps31
 go_wp2_with fail
 go_loopw [] (fun wr => ∃ (T1 : Tm) (la1 : Option Addr) (lc1 : Nat) (ka1 : Option Addr) (kc1 m er : Nat), Hid (HdR w M ea E.length cap B Bl Bh T1 la1 lc1 ka1 kc1 m er wr) ∧ Hid ((er = 0 ∧ T1.oka ∧ hd (E.map Dc.dl) m T1 = H0 ∧ m ≤ N ∧ (m = N → T1.ks.size < s + 1)) ∨ (er ≠ 0 ∧ H0 = .no er))) (fun wr => mcMu M wr)
 case atStart => exact ⟨T, la, lc, ka, kc, n, 0, HS, Lib.hid (.inl ⟨rfl, HT.out, HH0.out, hn, HB0.out⟩)⟩
 case round =>
  clear HS HT HB0 HH0 hn
  obtain ⟨T1, la1, lc1, ka1, kc1, m, er, hR, hH⟩ := hrel
  obtain ⟨⟨t0, t1, t2, t3, tf⟩, ⟨z0, z1, z2, z3, zf⟩, m0, m2⟩ := hR.out.cells
  rcases hH.out with ⟨rfl, hoka, hH1, hmN, hbs⟩ | ⟨her, hHn⟩
  ·have m2' : wr.cell? ⟨M, 2, none⟩ = some (.int .i64 0) := m2
   have HOA := Lib.hid hoka
   have HH1 := Lib.hid hH1
   have HMU : Hid (mcMu M wr = m + 1) := Lib.hid (by rw [mcMu_at hR.out.2.2.1, if_pos rfl])
   have hml : m ≤ 100000 := by omega
   have HBS := Lib.hid (And.intro hmN hbs)
   clear hoka hH1 hH m2 hmN hbs
   by_cases h7 : T1.k = 7
   ·have d7 : (T1.k == 7) = true := beq_iff_eq.2 h7
    have HB := Lib.hid (r16Burn_any M ea E.length cap m wr hml hR.out.2.2.1)
    have HON : Hid (onto (hd (E.map Dc.dl)) m (openA (T1.kid 2) (T1.kid 1)) = H0) := Lib.hid (by rw [← HH1.out, hd_step _ _ HOA.out, if_pos h7])
    have HL := Lib.hid (oka_seven HOA.out h7)
    clear h7
    go_wp2_with fail
    refine HB.out.mono ?_
    rintro e w2 ⟨hg2, ⟨hm0, rfl, hmc⟩ | ⟨hm1, rfl, hmc⟩⟩
    ·have hR2 := hR.out.turn (m' := 0) (er' := 40) HOK.out hg2 hmc
     have HN2 : Hid (H0 = .no 40) := Lib.hid (sem_none HON.out hm0)
     have HR2 := Lib.hid hR2
     have HM2 : Hid (mcMu M w2 = 0) := Lib.hid (by rw [mcMu_at (m := 0) (er := 40) hmc, if_neg (by omega)])
     clear hR2 hg2 hmc hm0 z0 z1 z2 z3 zf t0 t1 t2 t3 tf HB HON m0 m2' HL
     go_wp2_with fail
     go_roundw
     case rel => exact ⟨T1, _, _, _, _, 0, 40, HR2, Lib.hid (.inr ⟨by omega, HN2.out⟩)⟩
     case measure => have := HM2.out; have := HMU.out; omega
    ·clear t0 t1 t2 t3 tf z0 z1 z2 z3 zf m0 m2' HB
     have hR2 := hR.out.turn (m' := m - 1) (er' := 0) HOK.out hg2 hmc
     have HR2 := Lib.hid hR2
     have hz2 := hR2.size
     have hBq : B ≤ w2.heap.size ∧ w2.heap.size ≤ w2.heap.size := ⟨by have := HOK.out.1; have := HOK.out.2.1; omega, Nat.le_refl _⟩
     obtain ⟨⟨t0, t1, t2, t3, tf⟩, _, m0, _⟩ := hR2.cells
     rw [HL.out] at t3
     obtain ⟨b, o, la2, lc2, ka2, kc2, rfl, hb2, e0, e1, e2, e3, s2, s3⟩ := tl_kid (i := 2) hR2.2.2.2.2.1 (by have := HL.out; omega)
     obtain ⟨b', o', la3, lc3, ka3, kc3, hbo, hb3, f0, f1, f2, f3, r2, r3⟩ := tl_kid (i := 1) hR2.2.2.2.2.1 (by have := HL.out; omega)
     obtain ⟨rfl, rfl⟩ : b = b' ∧ o = o' := by injection hbo with h; injection h with h1 h2; exact ⟨h1, h2⟩
     change w2.cell? ⟨b, o + 8, none⟩ = _ at e0
     change w2.cell? ⟨b, o + 8 + 1, none⟩ = _ at e1
     change w2.cell? ⟨b, o + 8 + 2, none⟩ = _ at e2
     change w2.cell? ⟨b, o + 8 + 3, none⟩ = _ at e3
     change w2.cell? ⟨b, o + 4, none⟩ = _ at f0
     change w2.cell? ⟨b, o + 4 + 1, none⟩ = _ at f1
     change w2.cell? ⟨b, o + 4 + 2, none⟩ = _ at f2
     change w2.cell? ⟨b, o + 4 + 3, none⟩ = _ at f3
     have HO : Hid (∀ W, Below w2.heap.size w2 W → Calls Tryz.prog 46 #[.agg #[.int .i64 (kidT T1.ks 2).k, .int .i64 (kidT T1.ks 2).n, .slice la2 (kidT T1.ks 2).ls.len lc2, .slice ka2 (kidT T1.ks 2).ks.len kc2], .agg #[.int .i64 (kidT T1.ks 1).k, .int .i64 (kidT T1.ks 1).n, .slice la3 (kidT T1.ks 1).ls.len lc3, .slice ka3 (kidT T1.ks 1).ks.len kc3]] W (RePostQ B (bq Bl Bh (w.heap.size + 1 + 1)) w2.heap.size (openA (T1.kid 2) (T1.kid 1)) W)) := Lib.hid (fun W hW =>
      r13Open_anyQ (T1.kid 2) (T1.kid 1) la2 ka2 la3 ka3 lc2 kc2 lc3 kc3 B (bq Bl Bh (w.heap.size + 1 + 1)) w2.heap.size W (s2.belowQ hW hBq) (s3.belowQ hW hBq) (r2.belowQ hW hBq) (r3.belowQ hW hBq) (leQ hBq hW.size))
     have HAC := Lib.hid (openA_cases (T1.kid 2) (T1.kid 1))
     generalize openA (T1.kid 2) (T1.kid 1) = A at HO HON HAC
     have HAE : Hid (A.2 = 0 ∨ A.2 = 1 ∨ A.2 = 2) := Lib.hid (by rcases HAC.out with ⟨h, _⟩ | ⟨_, h | h⟩; exact .inl h; exact .inr (.inl h); exact .inr (.inr h))
     generalize kidT T1.ks 2 = X2 at e0 e1 e2 e3 HO
     generalize kidT T1.ks 1 = X1 at f0 f1 f2 f3 HO
     have hoff := hd_off HOK.out hb2
     have hbl : b < w2.heap.size := by omega
     have HSW : Hid (∀ W, w2.grownBy W (some M) → (fun (w' : World) => w'.cell? ⟨w.heap.size, 3, none⟩ = some (.slice (some ⟨b, o, none⟩) 3 kc1) ∧ w'.cell? ⟨b, o + 8, none⟩ = some (Value.int .i64 X2.k) ∧ w'.cell? ⟨b, o + 8 + 1, none⟩ = some (Value.int .i64 X2.n) ∧ w'.cell? ⟨b, o + 8 + 2, none⟩ = some (Value.slice la2 X2.ls.len lc2) ∧ w'.cell? ⟨b, o + 8 + 3, none⟩ = some (Value.slice ka2 X2.ks.len kc2) ∧ w'.cell? ⟨b, o + 4, none⟩ = some (Value.int .i64 X1.k) ∧ w'.cell? ⟨b, o + 4 + 1, none⟩ = some (Value.int .i64 X1.n) ∧ w'.cell? ⟨b, o + 4 + 2, none⟩ = some (Value.slice la3 X1.ls.len lc3) ∧ w'.cell? ⟨b, o + 4 + 3, none⟩ = some (Value.slice ka3 X1.ks.len kc3)) W) := Lib.hid (fun W hW => by
      have k : ∀ q i, q < w2.heap.size → q ≠ M → W.cell? ⟨q, i, none⟩ = w2.cell? ⟨q, i, none⟩ := fun q i h1 h2 => World.cell?_of_block (w := w2) (Only.block hW h1 h2)
      have hMw := HOK.out.2.1
      exact ⟨(k _ _ (by omega) (by omega)).trans t3, (k _ _ hbl hoff.1).trans e0, (k _ _ hbl hoff.1).trans e1, (k _ _ hbl hoff.1).trans e2, (k _ _ hbl hoff.1).trans e3, (k _ _ hbl hoff.1).trans f0, (k _ _ hbl hoff.1).trans f1, (k _ _ hbl hoff.1).trans f2, (k _ _ hbl hoff.1).trans f3⟩)
     have HS2 := Lib.hid (HSW.out w2.drew ⟨rfl, rfl, rfl, Nat.le_refl _, fun _ _ _ => rfl⟩)
     clear hR2 hg2 hmc s2 s3 r2 r3 hb2 hb3 hbo hBq hz2 m0 HL e0 e1 e2 e3 f0 f1 f2 f3 t0 t1 t2 t3 tf hoff hbl
     go_wp2_with fail
     refine wp_region_L (fun (w' : World) => w'.cell? ⟨w.heap.size, 3, none⟩ = some (.slice (some ⟨b, o, none⟩) 3 kc1) ∧ w'.cell? ⟨b, o + 8, none⟩ = some (Value.int .i64 X2.k) ∧ w'.cell? ⟨b, o + 8 + 1, none⟩ = some (Value.int .i64 X2.n) ∧ w'.cell? ⟨b, o + 8 + 2, none⟩ = some (Value.slice la2 X2.ls.len lc2) ∧ w'.cell? ⟨b, o + 8 + 3, none⟩ = some (Value.slice ka2 X2.ks.len kc2) ∧ w'.cell? ⟨b, o + 4, none⟩ = some (Value.int .i64 X1.k) ∧ w'.cell? ⟨b, o + 4 + 1, none⟩ = some (Value.int .i64 X1.n) ∧ w'.cell? ⟨b, o + 4 + 2, none⟩ = some (Value.slice la3 X1.ls.len lc3) ∧ w'.cell? ⟨b, o + 4 + 3, none⟩ = some (Value.slice ka3 X1.ks.len kc3)) 13 (by kernel_rfl) ?_
     have hH := (show (fun (w' : World) => w'.cell? ⟨w.heap.size, 3, none⟩ = some (.slice (some ⟨b, o, none⟩) 3 kc1) ∧ w'.cell? ⟨b, o + 8, none⟩ = some (Value.int .i64 X2.k) ∧ w'.cell? ⟨b, o + 8 + 1, none⟩ = some (Value.int .i64 X2.n) ∧ w'.cell? ⟨b, o + 8 + 2, none⟩ = some (Value.slice la2 X2.ls.len lc2) ∧ w'.cell? ⟨b, o + 8 + 3, none⟩ = some (Value.slice ka2 X2.ks.len kc2) ∧ w'.cell? ⟨b, o + 4, none⟩ = some (Value.int .i64 X1.k) ∧ w'.cell? ⟨b, o + 4 + 1, none⟩ = some (Value.int .i64 X1.n) ∧ w'.cell? ⟨b, o + 4 + 2, none⟩ = some (Value.slice la3 X1.ls.len lc3) ∧ w'.cell? ⟨b, o + 4 + 3, none⟩ = some (Value.slice ka3 X1.ks.len kc3)) w2.drew from HS2.out)
     refine tkL 0 ?_ hH ?_ ?_
     rotate_left
     ·intro w' hSw
      obtain ⟨s0, s1, s2, s3, s4, s5, s6, s7, s8⟩ := hSw
      go_simp
      try with_reducible rfl
     refine tkL 1 ?_ hH ?_ ?_
     rotate_left
     ·intro w' hSw
      obtain ⟨s0, s1, s2, s3, s4, s5, s6, s7, s8⟩ := hSw
      go_simp
      try with_reducible rfl
     refine tkL 2 ?_ hH ?_ ?_
     rotate_left
     ·intro w' hSw
      obtain ⟨s0, s1, s2, s3, s4, s5, s6, s7, s8⟩ := hSw
      go_simp
      try with_reducible rfl
     refine tkL 3 ?_ hH ?_ ?_
     rotate_left
     ·intro w' hSw
      obtain ⟨s0, s1, s2, s3, s4, s5, s6, s7, s8⟩ := hSw
      go_simp
      try with_reducible rfl
     refine tkL 4 ?_ hH ?_ ?_
     rotate_left
     ·intro w' hSw
      obtain ⟨s0, s1, s2, s3, s4, s5, s6, s7, s8⟩ := hSw
      go_simp
      try with_reducible rfl
     refine tkL 5 ?_ hH ?_ ?_
     rotate_left
     ·intro w' hSw
      obtain ⟨s0, s1, s2, s3, s4, s5, s6, s7, s8⟩ := hSw
      go_simp
      try with_reducible rfl
     refine tkL 6 ?_ hH ?_ ?_
     rotate_left
     ·intro w' hSw
      obtain ⟨s0, s1, s2, s3, s4, s5, s6, s7, s8⟩ := hSw
      go_simp
      try with_reducible rfl
     refine tkL 7 ?_ hH ?_ ?_
     rotate_left
     ·intro w' hSw
      obtain ⟨s0, s1, s2, s3, s4, s5, s6, s7, s8⟩ := hSw
      go_simp
      try with_reducible rfl
     refine tkL 8 ?_ hH ?_ ?_
     rotate_left
     ·intro w' hSw
      obtain ⟨s0, s1, s2, s3, s4, s5, s6, s7, s8⟩ := hSw
      go_simp
      try with_reducible rfl
     refine oneL 9 (fun K hK => ?_)
     go_simp
     go_at_call 46
     refine (HO.out _ ?_).mono ?_
     exact (Below.refl _ _).drew
     rintro e w3 ⟨la4, lc4, ka4, kc4, rfl, q1, q2, q3⟩
     have HP := Lib.hid (hd_put HR2.out HOK.out ((Below.refl _ _).drew) q3 HAE.out q1 q2)
     have hS3 := HSW.out w3 (Only.below M (Below.step ((Below.refl _ _).drew) q3 (Nat.le_refl _)))
     clear q1 q2 q3 hH
     have hH := (show (fun (w' : World) => w'.cell? ⟨w.heap.size, 3, none⟩ = some (.slice (some ⟨b, o, none⟩) 3 kc1) ∧ w'.cell? ⟨b, o + 8, none⟩ = some (Value.int .i64 X2.k) ∧ w'.cell? ⟨b, o + 8 + 1, none⟩ = some (Value.int .i64 X2.n) ∧ w'.cell? ⟨b, o + 8 + 2, none⟩ = some (Value.slice la2 X2.ls.len lc2) ∧ w'.cell? ⟨b, o + 8 + 3, none⟩ = some (Value.slice ka2 X2.ks.len kc2) ∧ w'.cell? ⟨b, o + 4, none⟩ = some (Value.int .i64 X1.k) ∧ w'.cell? ⟨b, o + 4 + 1, none⟩ = some (Value.int .i64 X1.n) ∧ w'.cell? ⟨b, o + 4 + 2, none⟩ = some (Value.slice la3 X1.ls.len lc3) ∧ w'.cell? ⟨b, o + 4 + 3, none⟩ = some (Value.slice ka3 X1.ks.len kc3)) w3 from hS3)
     refine hK.out _ _ hH ?_
     clear hK K hS3
     refine tkL 10 ?_ hH ?_ ?_
     rotate_left
     ·intro w' hSw
      obtain ⟨s0, s1, s2, s3, s4, s5, s6, s7, s8⟩ := hSw
      go_simp
      try with_reducible rfl
     refine tkL 11 ?_ hH ?_ ?_
     rotate_left
     ·intro w' hSw
      obtain ⟨s0, s1, s2, s3, s4, s5, s6, s7, s8⟩ := hSw
      go_simp
      try with_reducible rfl
     refine oneL 12 (fun K hK => ?_)
     go_simp
     go_at_call 45
     refine HP.out.mono ?_
     rintro e w4 ⟨rfl, ⟨y0, y1, y2, y3, yf, yl⟩, hg4, hm4, HN⟩
     clear hH
     have hH := (show (fun (w' : World) => w'.cell? ⟨w.heap.size, 3, none⟩ = some (.slice (some ⟨b, o, none⟩) 3 kc1) ∧ w'.cell? ⟨b, o + 8, none⟩ = some (Value.int .i64 X2.k) ∧ w'.cell? ⟨b, o + 8 + 1, none⟩ = some (Value.int .i64 X2.n) ∧ w'.cell? ⟨b, o + 8 + 2, none⟩ = some (Value.slice la2 X2.ls.len lc2) ∧ w'.cell? ⟨b, o + 8 + 3, none⟩ = some (Value.slice ka2 X2.ks.len kc2) ∧ w'.cell? ⟨b, o + 4, none⟩ = some (Value.int .i64 X1.k) ∧ w'.cell? ⟨b, o + 4 + 1, none⟩ = some (Value.int .i64 X1.n) ∧ w'.cell? ⟨b, o + 4 + 2, none⟩ = some (Value.slice la3 X1.ls.len lc3) ∧ w'.cell? ⟨b, o + 4 + 3, none⟩ = some (Value.slice ka3 X1.ks.len kc3)) w4 from HSW.out w4 hg4)
     refine hK.out _ _ hH ?_
     clear hK K HP hg4 hm4
     refine lastL (fun K hK => ?_)
     go_simp
     refine hK.out _ _ ?_
     clear hK K hH
     try simp only [Act.put, List.setIfInBounds_toArray, List.set_cons_zero, List.set_cons_succ]
     refine wpAnyL_done (by kernel_rfl) ?_ _
     go_wp2_with fail
     go_roundw
     case rel =>
      refine ⟨A.1, la4, lc4, ka4, kc4, m - 1, A.2.toNat, HN, Lib.hid ?_⟩
      have h9 := HBS.out.1
      rcases sem_next HON.out hm1 HAC.out with ⟨g1, g2, g3⟩ | ⟨g1, g2⟩
      ·exact .inl ⟨g1, g2, g3, by omega, fun e => by omega⟩
      ·exact .inr ⟨g1, g2⟩
     case measure =>
      have h1 := mcMu_at HN.out.2.2.1
      have h2 := HMU.out
      split at h1 <;> omega
   ·have d7 : (T1.k == 7) = false := beq_eq_false_iff_ne.2 h7
    have hH2 := HH1.out
    rw [hd_step _ _ HOA.out, if_neg h7] at hH2
    have HH2 := Lib.hid hH2
    obtain ⟨i, hi⟩ : ∃ i : Nat, T1.n = i := ⟨T1.n.toNat, by have := HOA.out.2.1; omega⟩
    have HUF := Lib.hid (r16unf_any E M ea cap B m 0 T1.k i T1.ls T1.ks la1 ka1 lc1 kc1 wr hR.out.2.2.1 (hR.out.decls HOK.out HE.out) (by have := hR.out.size; have := HOK.out.1; have := HOK.out.2.1; omega))
    have hT1 : (⟨T1.k, (i : Int), T1.ls, T1.ks⟩ : Tm) = T1 := by rw [← hi]
    rw [hT1] at HUF
    have t1' := t1
    rw [hi] at t1'
    have HI := Lib.hid hi
    clear hT1 hH2 HH1 t1 hi
    have t1 := t1'
    clear t1'
    cases hu : unf (E.map Dc.dl) T1 with
    | some v =>
     have hub : unfB E T1 = true := by unfold unfB; rw [hu]; rfl
     rw [hub] at HUF
     rw [hu] at HH2
     obtain ⟨h3, hiE, hv⟩ := unf_some hu HI.out
     have HON : Hid (onto (hd (E.map Dc.dl)) m (qA T1.ls .nil v) = H0) := HH2
     have HV := Lib.hid hv
     clear hub hu HH2 h7 h3 hv
     go_wp2_with fail
     refine HUF.out.mono ?_
     rintro e w1 ⟨rfl, hb1⟩
     have hR1 := hR.out.turn HOK.out (Only.below M hb1) (hR.out.2.2.1.later hb1)
     have HR1 := Lib.hid hR1
     have HB := Lib.hid (r16Burn_any M ea E.length cap m w1 hml hR1.2.2.1)
     clear t0 t1 t2 t3 tf z0 z1 z2 z3 zf m0 m2' hb1 HUF hR
     obtain ⟨⟨t0, t1, t2, t3, tf⟩, ⟨z0, z1, z2, z3, zf⟩, m0, _⟩ := hR1.cells
     clear hR1
     go_wp2_with fail
     refine HB.out.mono ?_
     rintro e w2 ⟨hg2, ⟨hm0, rfl, hmc⟩ | ⟨hm1, rfl, hmc⟩⟩
     ·have hR2 := HR1.out.turn (m' := 0) (er' := 40) HOK.out hg2 hmc
      have HN2 : Hid (H0 = .no 40) := Lib.hid (sem_none HON.out hm0)
      have HR2 := Lib.hid hR2
      have HM2 : Hid (mcMu M w2 = 0) := Lib.hid (by rw [mcMu_at (m := 0) (er := 40) hmc, if_neg (by omega)])
      clear hR2 hg2 hmc hm0 z0 z1 z2 z3 zf t0 t1 t2 t3 tf HB HON m0
      go_wp2_with fail
      go_roundw
      case rel => exact ⟨T1, _, _, _, _, 0, 40, HR2, Lib.hid (.inr ⟨by omega, HN2.out⟩)⟩
      case measure => have := HM2.out; have := HMU.out; omega
     ·clear t0 t1 t2 t3 tf z0 z1 z2 z3 zf m0 HB
      have hR2 := HR1.out.turn (m' := m - 1) (er' := 0) HOK.out hg2 hmc
      have HR2 := Lib.hid hR2
      have hz2 := hR2.size
      have hBq : B ≤ w2.heap.size ∧ w2.heap.size ≤ w2.heap.size := ⟨by have := HOK.out.1; have := HOK.out.2.1; omega, Nat.le_refl _⟩
      obtain ⟨⟨t0, t1, t2, t3, tf⟩, _, m0, _⟩ := hR2.cells
      rw [HI.out] at t1
      obtain ⟨eb, eo, rfl, heb, _, _, _, _, g0, g1, la2, lc2, ka2, kc2, g2, g3, s2, s3⟩ := (hR2.decls HOK.out HE.out).get hiE
      rw [← HV.out] at g0 g1 g2 g3 s2 s3
      have hlen := (hR2.decls HOK.out HE.out).len
      have hi0 : (0 : Int) ≤ (i : Int) := by omega
      have hiL : (i : Int) < (E.length : Int) := by omega
      have hsq : ∀ b, b < B → b < B ∨ (bq Bl Bh (w.heap.size + 1 + 1) b = 0 ∧ b < w2.heap.size) := fun b h => .inl h
      have s2' := s2.weak hsq
      have s3' := s3.turn (fun _ _ => rfl) hsq
      have HO : Hid (∀ W, Below w2.heap.size w2 W → Calls Tryz.prog 48 #[.agg #[.int .i64 v.k, .int .i64 v.n, .slice la2 v.ls.len lc2, .slice ka2 v.ks.len kc2], .slice la1 T1.ls.len lc1, .slice none 0 0] W (QaPostQ B (bq Bl Bh (w.heap.size + 1 + 1)) w2.heap.size (qA T1.ls .nil v) W)) := Lib.hid (fun W hW =>
       r15Sub_anyQ T1.ls .nil v la2 ka2 la1 none lc2 kc2 lc1 0 B (bq Bl Bh (w.heap.size + 1 + 1)) w2.heap.size W (s2'.belowQ hW hBq) (s3'.belowQ hW hBq) (hR2.2.2.2.1.belowQ hW hBq) (SlIn.none _ _) (leQ hBq hW.size))
      have HAC := Lib.hid (qA_cases T1.ls .nil v)
      generalize qA T1.ls .nil v = A at HO HON HAC
      have HAE : Hid (A.2 = 0 ∨ A.2 = 1 ∨ A.2 = 2) := Lib.hid (by rcases HAC.out with ⟨h, _⟩ | ⟨_, h | h⟩; exact .inl h; exact .inr (.inl h); exact .inr (.inr h))
      obtain ⟨X2, hX2⟩ : ∃ X2, X2 = v := ⟨_, rfl⟩
      rw [← hX2] at g0 g1 g2 g3 HO
      have hebl : eb < w2.heap.size := by have := hBq.1; omega
      have hebM : eb ≠ M := by have := HOK.out.1; omega
      have HSW : Hid (∀ W, w2.grownBy W (some M) → W.cell? ⟨M, 0, none⟩ = some (.slice (some ⟨eb, eo, none⟩) E.length cap) → (fun (w' : World) => w'.cell? ⟨M, 0, none⟩ = some (.slice (some ⟨eb, eo, none⟩) E.length cap) ∧ w'.cell? ⟨w.heap.size, 1, none⟩ = some (.int .i64 (i : Int)) ∧ w'.cell? ⟨w.heap.size, 2, none⟩ = some (.slice la1 T1.ls.len lc1) ∧ w'.cell? ⟨eb, eo + i * 11 + 7, none⟩ = some (Value.int .i64 X2.k) ∧ w'.cell? ⟨eb, eo + i * 11 + 7 + 1, none⟩ = some (Value.int .i64 X2.n) ∧ w'.cell? ⟨eb, eo + i * 11 + 7 + 2, none⟩ = some (Value.slice la2 X2.ls.len lc2) ∧ w'.cell? ⟨eb, eo + i * 11 + 7 + 3, none⟩ = some (Value.slice ka2 X2.ks.len kc2)) W) := Lib.hid (fun W hW hm => by
       have k : ∀ q i, q < w2.heap.size → q ≠ M → W.cell? ⟨q, i, none⟩ = w2.cell? ⟨q, i, none⟩ := fun q i h1 h2 => World.cell?_of_block (w := w2) (Only.block hW h1 h2)
       have hMw := HOK.out.2.1
       exact ⟨hm, (k _ _ (by omega) (by omega)).trans t1, (k _ _ (by omega) (by omega)).trans t2, (k _ _ hebl hebM).trans g0, (k _ _ hebl hebM).trans g1, (k _ _ hebl hebM).trans g2, (k _ _ hebl hebM).trans g3⟩)
      have HM2 : Hid (∀ W, Below w2.heap.size w2 W → W.cell? ⟨M, 0, none⟩ = some (.slice (some ⟨eb, eo, none⟩) E.length cap)) := Lib.hid (fun W hW => (bcell hW M 0 (by have := HOK.out.2.1; omega)).trans m0)
      have HS2 := Lib.hid (HSW.out w2.drew ⟨rfl, rfl, rfl, Nat.le_refl _, fun _ _ _ => rfl⟩ (HM2.out _ (Below.refl _ _).drew))
      clear hR2 hg2 hmc s2 s3 s2' s3' hsq heb hBq hz2 m0 g0 g1 g2 g3 t0 t1 t2 t3 tf hebl hebM HV hX2 HR1
      go_wp2_with fail
      refine wp_region_L (fun (w' : World) => w'.cell? ⟨M, 0, none⟩ = some (.slice (some ⟨eb, eo, none⟩) E.length cap) ∧ w'.cell? ⟨w.heap.size, 1, none⟩ = some (.int .i64 (i : Int)) ∧ w'.cell? ⟨w.heap.size, 2, none⟩ = some (.slice la1 T1.ls.len lc1) ∧ w'.cell? ⟨eb, eo + i * 11 + 7, none⟩ = some (Value.int .i64 X2.k) ∧ w'.cell? ⟨eb, eo + i * 11 + 7 + 1, none⟩ = some (Value.int .i64 X2.n) ∧ w'.cell? ⟨eb, eo + i * 11 + 7 + 2, none⟩ = some (Value.slice la2 X2.ls.len lc2) ∧ w'.cell? ⟨eb, eo + i * 11 + 7 + 3, none⟩ = some (Value.slice ka2 X2.ks.len kc2)) 16 (by kernel_rfl) ?_
      have hH := (show (fun (w' : World) => w'.cell? ⟨M, 0, none⟩ = some (.slice (some ⟨eb, eo, none⟩) E.length cap) ∧ w'.cell? ⟨w.heap.size, 1, none⟩ = some (.int .i64 (i : Int)) ∧ w'.cell? ⟨w.heap.size, 2, none⟩ = some (.slice la1 T1.ls.len lc1) ∧ w'.cell? ⟨eb, eo + i * 11 + 7, none⟩ = some (Value.int .i64 X2.k) ∧ w'.cell? ⟨eb, eo + i * 11 + 7 + 1, none⟩ = some (Value.int .i64 X2.n) ∧ w'.cell? ⟨eb, eo + i * 11 + 7 + 2, none⟩ = some (Value.slice la2 X2.ls.len lc2) ∧ w'.cell? ⟨eb, eo + i * 11 + 7 + 3, none⟩ = some (Value.slice ka2 X2.ks.len kc2)) w2.drew from HS2.out)
      refine tkL 0 ?_ hH ?_ ?_
      rotate_left
      ·intro w' hSw
       obtain ⟨s0, s1, s2, s3, s4, s5, s6⟩ := hSw
       go_simp
       try with_reducible rfl
      refine tkL 1 ?_ hH ?_ ?_
      rotate_left
      ·intro w' hSw
       obtain ⟨s0, s1, s2, s3, s4, s5, s6⟩ := hSw
       go_simp
       try with_reducible rfl
      refine tkL 2 ?_ hH ?_ ?_
      rotate_left
      ·intro w' hSw
       obtain ⟨s0, s1, s2, s3, s4, s5, s6⟩ := hSw
       go_simp
       try with_reducible rfl
      refine tkL 3 ?_ hH ?_ ?_
      rotate_left
      ·intro w' hSw
       obtain ⟨s0, s1, s2, s3, s4, s5, s6⟩ := hSw
       go_simp
       try with_reducible rfl
      refine tkL 4 ?_ hH ?_ ?_
      rotate_left
      ·intro w' hSw
       obtain ⟨s0, s1, s2, s3, s4, s5, s6⟩ := hSw
       go_simp
       try with_reducible rfl
      refine tkL 5 ?_ hH ?_ ?_
      rotate_left
      ·intro w' hSw
       obtain ⟨s0, s1, s2, s3, s4, s5, s6⟩ := hSw
       go_simp
       try with_reducible rfl
      refine tkL 6 ?_ hH ?_ ?_
      rotate_left
      ·intro w' hSw
       obtain ⟨s0, s1, s2, s3, s4, s5, s6⟩ := hSw
       go_simp
       try with_reducible rfl
      refine tkL 7 ?_ hH ?_ ?_
      rotate_left
      ·intro w' hSw
       obtain ⟨s0, s1, s2, s3, s4, s5, s6⟩ := hSw
       go_simp
       try with_reducible rfl
      refine tkL 8 ?_ hH ?_ ?_
      rotate_left
      ·intro w' hSw
       obtain ⟨s0, s1, s2, s3, s4, s5, s6⟩ := hSw
       go_simp
       try with_reducible rfl
      refine tkL 9 ?_ hH ?_ ?_
      rotate_left
      ·intro w' hSw
       obtain ⟨s0, s1, s2, s3, s4, s5, s6⟩ := hSw
       go_simp
       try with_reducible rfl
      refine tkL 10 ?_ hH ?_ ?_
      rotate_left
      ·intro w' hSw
       obtain ⟨s0, s1, s2, s3, s4, s5, s6⟩ := hSw
       go_simp
       try with_reducible rfl
      refine tkL 11 ?_ hH ?_ ?_
      rotate_left
      ·intro w' hSw
       obtain ⟨s0, s1, s2, s3, s4, s5, s6⟩ := hSw
       go_simp
       try with_reducible rfl
      refine oneL 12 (fun K hK => ?_)
      go_simp
      go_at_call 48
      refine (HO.out _ ?_).mono ?_
      exact (Below.refl _ _).drew
      rintro e w3 ⟨la4, lc4, ka4, kc4, rfl, q1, q2, q3⟩
      have HP := Lib.hid (hd_put HR2.out HOK.out ((Below.refl _ _).drew) q3 HAE.out q1 q2)
      have hS3 := HSW.out w3 (Only.below M (Below.step ((Below.refl _ _).drew) q3 (Nat.le_refl _))) (HM2.out w3 (Below.step ((Below.refl _ _).drew) q3 (Nat.le_refl _)))
      clear q1 q2 q3 hH
      have hH := (show (fun (w' : World) => w'.cell? ⟨M, 0, none⟩ = some (.slice (some ⟨eb, eo, none⟩) E.length cap) ∧ w'.cell? ⟨w.heap.size, 1, none⟩ = some (.int .i64 (i : Int)) ∧ w'.cell? ⟨w.heap.size, 2, none⟩ = some (.slice la1 T1.ls.len lc1) ∧ w'.cell? ⟨eb, eo + i * 11 + 7, none⟩ = some (Value.int .i64 X2.k) ∧ w'.cell? ⟨eb, eo + i * 11 + 7 + 1, none⟩ = some (Value.int .i64 X2.n) ∧ w'.cell? ⟨eb, eo + i * 11 + 7 + 2, none⟩ = some (Value.slice la2 X2.ls.len lc2) ∧ w'.cell? ⟨eb, eo + i * 11 + 7 + 3, none⟩ = some (Value.slice ka2 X2.ks.len kc2)) w3 from hS3)
      refine hK.out _ _ hH ?_
      clear hK K hS3
      refine tkL 13 ?_ hH ?_ ?_
      rotate_left
      ·intro w' hSw
       obtain ⟨s0, s1, s2, s3, s4, s5, s6⟩ := hSw
       go_simp
       try with_reducible rfl
      refine tkL 14 ?_ hH ?_ ?_
      rotate_left
      ·intro w' hSw
       obtain ⟨s0, s1, s2, s3, s4, s5, s6⟩ := hSw
       go_simp
       try with_reducible rfl
      refine oneL 15 (fun K hK => ?_)
      go_simp
      go_at_call 45
      refine HP.out.mono ?_
      rintro e w4 ⟨rfl, ⟨y0, y1, y2, y3, yf, yl⟩, hg4, hm4, HN⟩
      clear hH
      have hH := (show (fun (w' : World) => w'.cell? ⟨M, 0, none⟩ = some (.slice (some ⟨eb, eo, none⟩) E.length cap) ∧ w'.cell? ⟨w.heap.size, 1, none⟩ = some (.int .i64 (i : Int)) ∧ w'.cell? ⟨w.heap.size, 2, none⟩ = some (.slice la1 T1.ls.len lc1) ∧ w'.cell? ⟨eb, eo + i * 11 + 7, none⟩ = some (Value.int .i64 X2.k) ∧ w'.cell? ⟨eb, eo + i * 11 + 7 + 1, none⟩ = some (Value.int .i64 X2.n) ∧ w'.cell? ⟨eb, eo + i * 11 + 7 + 2, none⟩ = some (Value.slice la2 X2.ls.len lc2) ∧ w'.cell? ⟨eb, eo + i * 11 + 7 + 3, none⟩ = some (Value.slice ka2 X2.ks.len kc2)) w4 from HSW.out w4 hg4 hm4)
      refine hK.out _ _ hH ?_
      clear hK K HP hg4 hm4
      refine lastL (fun K hK => ?_)
      go_simp
      refine hK.out _ _ ?_
      clear hK K hH
      try simp only [Act.put, List.setIfInBounds_toArray, List.set_cons_zero, List.set_cons_succ]
      refine wpAnyL_done (by kernel_rfl) ?_ _
      go_wp2_with fail
      go_roundw
      case rel =>
       refine ⟨A.1, la4, lc4, ka4, kc4, m - 1, A.2.toNat, HN, Lib.hid ?_⟩
       have h9 := HBS.out.1
       rcases sem_next HON.out hm1 HAC.out with ⟨g1, g2, g3⟩ | ⟨g1, g2⟩
       ·exact .inl ⟨g1, g2, g3, by omega, fun e => by omega⟩
       ·exact .inr ⟨g1, g2⟩
      case measure =>
       have h1 := mcMu_at HN.out.2.2.1
       have h2 := HMU.out
       split at h1 <;> omega
    | none =>
     have hub : unfB E T1 = false := by unfold unfB; rw [hu]; rfl
     rw [hub] at HUF
     rw [hu] at HH2
     dsimp only at HH2
     clear hub hu h7
     by_cases h4 : T1.k = 4
     ·have d4 : (T1.k == 4) = true := beq_iff_eq.2 h4
      rw [if_pos h4] at HH2
      have HL := Lib.hid (oka_four HOA.out h4)
      clear h4
      go_wp2_with fail
      refine HUF.out.mono ?_
      rintro e w1 ⟨rfl, hb1⟩
      have hR1 := hR.out.turn HOK.out (Only.below M hb1) (hR.out.2.2.1.later hb1)
      have HR1 := Lib.hid hR1
      have HDE := Lib.hid (hR1.decls HOK.out HE.out)
      clear t0 t1 t2 t3 tf z0 z1 z2 z3 zf m0 m2' hb1 HUF hR
      obtain ⟨⟨t0, t1, t2, t3, tf⟩, _, m0, _⟩ := hR1.cells
      rw [HL.out] at t3
      obtain ⟨b, o, la2, lc2, ka2, kc2, rfl, hb2, e0, e1, e2, e3, s2, s3⟩ := tl_kid (i := 0) hR1.2.2.2.2.1 (by have := HL.out; omega)
      obtain ⟨b', o', la3, lc3, ka3, kc3, hbo, hb3, f0, f1, f2, f3, r2, r3⟩ := tl_kid (i := 1) hR1.2.2.2.2.1 (by have := HL.out; omega)
      obtain ⟨rfl, rfl⟩ : b = b' ∧ o = o' := by injection hbo with h; injection h with h1 h2; exact ⟨h1, h2⟩
      have hkb := kidT_big T1.ks 0 (by have := HL.out; omega)
      have HC : Hid (Calls Tryz.prog 31 #[.pointer (some ⟨M, 0, none⟩), .agg #[.int .i64 (kidT T1.ks 0).k, .int .i64 (kidT T1.ks 0).n, .slice la2 (kidT T1.ks 0).ls.len lc2, .slice ka2 (kidT T1.ks 0).ks.len kc2]] w1 (HdPost M ea E.length cap B (bq Bl Bh (w.heap.size + 1 + 1)) w1.heap.size (hd (E.map Dc.dl) m (T1.kid 0)) w1)) := Lib.hid
       (HIH.out m (T1.kid 0) (by have := HBS.out; simp only [Tm.big] at hkb; unfold Tm.kid; omega) (okA_kid HOA.out.2.2 (by have := HL.out; omega)) la2 ka2 lc2 kc2 (bq Bl Bh (w.heap.size + 1 + 1)) w1.heap.size w1 (hR1.kidOk HOK.out) HDE.out hR1.2.2.1 s2 s3)
      have HO0 : Hid ((T1.kid 0).oka) := Lib.hid (okA_kid HOA.out.2.2 (by have := HL.out; omega))
      have HO1 : Hid ((T1.kid 1).oka) := Lib.hid (okA_kid HOA.out.2.2 (by have := HL.out; omega))
      change w1.cell? ⟨b, o, none⟩ = _ at e0
      change w1.cell? ⟨b, o + 1, none⟩ = _ at e1
      change w1.cell? ⟨b, o + 2, none⟩ = _ at e2
      change w1.cell? ⟨b, o + 3, none⟩ = _ at e3
      have hoff := hd_off HOK.out hb2
      have hbl : b < w1.heap.size := by have := hR1.size; have := HOK.out.1; have := HOK.out.2.1; omega
      have HK1 := Lib.hid (And.intro f0 (And.intro f1 (And.intro f2 (And.intro f3 (And.intro r2 r3)))))
      have HBL := Lib.hid (And.intro hbl hoff)
      clear f0 f1 f2 f3 r2 r3 hbo hb3 hb2 hkb hoff hbl s2 s3 hR1 HIH
      generalize kidT T1.ks 0 = X0 at e0 e1 e2 e3 HC
      obtain ⟨R, hR0⟩ : ∃ R, hd (E.map Dc.dl) m (T1.kid 0) = R := ⟨_, rfl⟩
      rw [hR0] at HC HH2
      have HR0 := Lib.hid hR0
      clear hR0
      cases R with
      | no er2 =>
       have HHN : Hid (H0 = .no er2) := Lib.hid HH2.out.symm
       go_wp2_with fail
       refine HC.out.mono ?_
       rintro e w2 ⟨hg2, her2, k9, n9, la9, l9, lc9, ka9, kl9, kc9, fu, rfl, hmc⟩
       have hR3 := (HR1.out.turn (m' := fu) (er' := er2) HOK.out hg2 hmc).alloc HOK.out (.cells #[.int .i64 k9, .int .i64 n9, .slice la9 l9 lc9, .slice ka9 kl9 kc9] 30)
       have HR3 := Lib.hid hR3
       have hn3 := heap_new w2 (.cells #[.int .i64 k9, .int .i64 n9, .slice la9 l9 lc9, .slice ka9 kl9 kc9] 30)
       obtain ⟨x0, x1, x2, x3⟩ := cells4 hn3
       have hkk : ∀ i, (w2.alloc (.cells #[.int .i64 k9, .int .i64 n9, .slice la9 l9 lc9, .slice ka9 kl9 kc9] 30)).cell? ⟨b, i, none⟩ = w1.cell? ⟨b, i, none⟩ := fun i => (World.cell?_of_block (w := w2) (heap_old _ _ (Nat.lt_of_lt_of_le HBL.out.1 hg2.size))).trans (World.cell?_of_block (w := w1) (Only.block hg2 HBL.out.1 HBL.out.2.1))
       have HE3 : Hid (∀ W, Below (w2.alloc (.cells #[.int .i64 k9, .int .i64 n9, .slice la9 l9 lc9, .slice ka9 kl9 kc9] 30)).heap.size (w2.alloc (.cells #[.int .i64 k9, .int .i64 n9, .slice la9 l9 lc9, .slice ka9 kl9 kc9] 30)) W → ∀ (x : Option Addr), HdPost M ea E.length cap B Bl Bh (.no er2) w (.returned (.agg #[.int .i64 4, .int .i64 0, .slice none 0 0, .slice x 2 2])) ((((W.setCell ⟨w.heap.size + 1, 0, none⟩ (.int .i64 4)).setCell ⟨w.heap.size + 1, 1, none⟩ (.int .i64 0)).setCell ⟨w.heap.size + 1, 2, none⟩ (.slice none 0 0)).setCell ⟨w.heap.size + 1, 3, none⟩ (.slice x 2 2))) := Lib.hid (fun W hW x => hR3.bad HOK.out hW her2 4 0 none 0 0 x 2 2)
       have de2 : ((er2 : Int) != 0) = true := by rw [bne_iff_ne]; omega
       obtain ⟨f0, f1, f2, f3, _, _⟩ := HK1.out
       have f0' := (hkk _).trans f0
       have f1' := (hkk _).trans f1
       have f2' := (hkk _).trans f2
       have f3' := (hkk _).trans f3
       obtain ⟨⟨t0, t1, t2, t3', tf⟩, ⟨z0, z1, z2, z3, zf⟩, m0, m2⟩ := hR3.cells
       obtain ⟨_, ⟨z0', z1', z2', z3', zf'⟩, _, _⟩ := (hR3.alloc HOK.out (.cells #[.int .i64 k9, .int .i64 n9, .slice la9 l9 lc9, .slice ka9 kl9 kc9, .int .i64 (kidT T1.ks 1).k, .int .i64 (kidT T1.ks 1).n, .slice la3 (kidT T1.ks 1).ls.len lc3, .slice ka3 (kidT T1.ks 1).ks.len kc3] 30)).cells
       rw [HL.out] at t3'
       clear hR3 hn3 hkk hg2 her2 hmc f0 f1 f2 f3 t3
       go_wp2_with fail
       go_region
       go_wp2_with fail
       refine bodyPost_ret (v := .agg #[.int .i64 4, .int .i64 0, .slice none 0 0, .slice (some ⟨w2.heap.size + 1, 0, none⟩) 2 2]) (by simp [results, Tryz.results31, go_sem, z0', z1', z2', z3']) rfl ?_
       rw [HHN.out]
       exact HE3.out _ (((Below.refl _ _).alloc (Nat.le_refl _) _).drew) _
      | ok f m3 =>
       go_wp2_with fail
       refine HC.out.mono ?_
       rintro e w2 ⟨hg2, la9, lc9, ka9, kc9, rfl, hmc, q1, q2⟩
       obtain ⟨fo, hfo⟩ : ∃ fo : Obj, fo = .cells #[.int .i64 f.k, .int .i64 f.n, .slice la9 f.ls.len lc9, .slice ka9 f.ks.len kc9] 30 := ⟨_, rfl⟩
       have hR3 := (HR1.out.turn (m' := m3) (er' := 0) HOK.out hg2 hmc).alloc HOK.out fo
       have HR3 := Lib.hid hR3
       have hn3 := heap_new w2 fo
       have hz1 := HR1.out.size
       have hsub : ∀ q, ((q < B ∨ (bq Bl Bh (w.heap.size + 1 + 1) q = 0 ∧ q < w1.heap.size)) ∨ w1.heap.size ≤ q) ∧ q < w2.heap.size → q < B ∨ (bq Bl Bh (w.heap.size + 1 + 1) q = 0 ∧ q < (w2.alloc fo).heap.size) := fun q hq => by have := hd_sub hz1 hq; simp; omega
       have p1 : SlIn (w2.alloc fo) (fun q => q < B ∨ (bq Bl Bh (w.heap.size + 1 + 1) q = 0 ∧ q < (w2.alloc fo).heap.size)) f.ls la9 lc9 := (q1.keep (fun q hq => heap_old _ _ hq.2)).weak hsub
       have p2 : TlIn (w2.alloc fo) (fun q => q < B ∨ (bq Bl Bh (w.heap.size + 1 + 1) q = 0 ∧ q < (w2.alloc fo).heap.size)) f.ks ka9 kc9 := q2.turn (fun q hq => heap_old _ _ hq.2) hsub
       have hkk : ∀ i, (w2.alloc fo).cell? ⟨b, i, none⟩ = w1.cell? ⟨b, i, none⟩ := fun i => (World.cell?_of_block (w := w2) (heap_old _ _ (Nat.lt_of_lt_of_le HBL.out.1 hg2.size))).trans (World.cell?_of_block (w := w1) (Only.block hg2 HBL.out.1 HBL.out.2.1))
       have hkq : ∀ q, (q < B ∨ (bq Bl Bh (w.heap.size + 1 + 1) q = 0 ∧ q < w1.heap.size)) → (w2.alloc fo).heap[q]? = w1.heap[q]? := fun q hq => by
        have h1 := hd_off HOK.out hq
        have h2 := HOK.out.1
        have h3 := HOK.out.2.1
        have h4 := hg2.size
        exact (heap_old _ _ (by omega)).trans (Only.block hg2 (by omega) h1.1)
       have hks : ∀ q, (q < B ∨ (bq Bl Bh (w.heap.size + 1 + 1) q = 0 ∧ q < w1.heap.size)) → q < B ∨ (bq Bl Bh (w.heap.size + 1 + 1) q = 0 ∧ q < (w2.alloc fo).heap.size) := fun q hq => by have := hg2.size; simp; omega
       obtain ⟨f0, f1, f2, f3, r2, r3⟩ := HK1.out
       have f0' := (hkk _).trans f0
       have f1' := (hkk _).trans f1
       have f2' := (hkk _).trans f2
       have f3' := (hkk _).trans f3
       have r2' := (r2.keep hkq).weak hks
       have r3' := r3.turn hkq hks
       clear f0 f1 f2 f3 r2 r3 hkk hkq hks q1 q2 hsub t0 t1 t2 t3 tf m0 e0 e1 e2 e3 HC
       obtain ⟨⟨t0, t1, t2, t3, tf⟩, ⟨z0, z1, z2, z3, zf⟩, m0, m2⟩ := hR3.cells
       rw [HL.out] at t3
       change (w2.alloc fo).cell? ⟨M, 2, none⟩ = some (.int .i64 0) at m2
       have HOF := Lib.hid (hd_oka HO0.out HR0.out)
       have HML := Lib.hid (hd_less HR0.out)
       by_cases h5 : f.k = 5
       ·rw [if_pos h5] at HH2
        have d5 : (f.k != 5) = false := by rw [h5]; rfl
        have HON : Hid (onto (hd (E.map Dc.dl)) m3 (openA (f.kid 1) (T1.kid 1)) = H0) := HH2
        have HLF := Lib.hid (oka_five HOF.out h5)
        have HB := Lib.hid (r16Burn_any M ea E.length cap m3 (w2.alloc fo) (by have := HML.out; omega) hR3.2.2.1)
        have hfl : w2.heap.size < (w2.alloc fo).heap.size := by simp
        have hMw2 : M ≠ w2.heap.size := by have := hg2.size; have := HR1.out.size; have := HOK.out.2.1; omega
        have HP1 := Lib.hid (And.intro p1 p2)
        have HRR := Lib.hid (And.intro r2' r3')
        have HFF := Lib.hid (And.intro f0' (And.intro f1' (And.intro f2' f3')))
        have HN3 := Lib.hid hn3
        have HZ3 := Lib.hid (And.intro hfl hMw2)
        have HBW := Lib.hid (Nat.lt_of_lt_of_le HBL.out.1 hg2.size)
        subst hfo
        obtain ⟨x0, x1, x2, x3⟩ := cells4 hn3
        clear HH2 h5 hg2 hmc p1 p2 r2' r3' f0' f1' f2' f3' hn3 hR3 hfl hMw2 hz1
        go_wp2_with fail
        obtain ⟨W3, hW3⟩ : ∃ W3, w2.alloc (.cells #[.int .i64 f.k, .int .i64 f.n, .slice la9 f.ls.len lc9, .slice ka9 f.ks.len kc9] 30) = W3 := ⟨_, rfl⟩
        rw [hW3] at HB HP1 HRR HFF HN3 HZ3 HR3 t0 t1 t2 t3 z0 z1 z2 z3 m0 m2 x0 x1 x2 x3 ⊢
        have htf : ∀ o, W3.frozen? ⟨w.heap.size, o, none⟩ = false := fun o => by rw [← hW3]; exact tf o
        have hzf : ∀ o, W3.frozen? ⟨w.heap.size + 1, o, none⟩ = false := fun o => by rw [← hW3]; exact zf o
        clear tf zf
        have tf := htf
        have zf := hzf
        have HW3 : Hid (w2.heap.size + 1 = W3.heap.size) := Lib.hid (by rw [← hW3]; simp)
        clear hW3 htf hzf
        refine HB.out.mono ?_
        rintro e w4 ⟨hg4, ⟨hm0, rfl, hmc4⟩ | ⟨hm1, rfl, hmc4⟩⟩
        ·have hR2 := HR3.out.turn (m' := 0) (er' := 40) HOK.out hg4 hmc4
         have HN2 : Hid (H0 = .no 40) := Lib.hid (sem_none HON.out hm0)
         have HR2 := Lib.hid hR2
         have HM2 : Hid (mcMu M w4 = 0) := Lib.hid (by rw [mcMu_at (m := 0) (er := 40) hmc4, if_neg (by omega)])
         clear hR2 hg4 hmc4 hm0 z0 z1 z2 z3 zf t0 t1 t2 t3 tf HB HON m0 m2 x0 x1 x2 x3 HLF
         go_wp2_with fail
         go_roundw
         case rel => exact ⟨T1, _, _, _, _, 0, 40, HR2, Lib.hid (.inr ⟨by omega, HN2.out⟩)⟩
         case measure => have := HM2.out; have := HMU.out; omega
        ·clear t0 t1 t2 t3 tf z0 z1 z2 z3 zf m0 m2 x0 x1 x2 x3 HB
         have hR2 := HR3.out.turn (m' := m3 - 1) (er' := 0) HOK.out hg4 hmc4
         have HR2 := Lib.hid hR2
         have hz2 := hR2.size
         have hMw := HOK.out.2.1
         have hBM := HOK.out.1
         have hBq : B ≤ w4.heap.size ∧ w4.heap.size ≤ w4.heap.size := ⟨by omega, Nat.le_refl _⟩
         have hkq : ∀ q, (q < B ∨ (bq Bl Bh (w.heap.size + 1 + 1) q = 0 ∧ q < W3.heap.size)) → w4.heap[q]? = W3.heap[q]? := fun q hq => Only.block hg4 (by have := HR3.out.size; omega) (hd_off HOK.out hq).1
         have hks : ∀ q, (q < B ∨ (bq Bl Bh (w.heap.size + 1 + 1) q = 0 ∧ q < W3.heap.size)) → q < B ∨ (bq Bl Bh (w.heap.size + 1 + 1) q = 0 ∧ q < w4.heap.size) := fun q hq => by have := hg4.size; omega
         have p2' := HP1.out.2.turn hkq hks
         have r2' := (HRR.out.1.keep hkq).weak hks
         have r3' := HRR.out.2.turn hkq hks
         obtain ⟨⟨t0, t1, t2, t3, tf⟩, _, m0, _⟩ := hR2.cells
         rw [HL.out] at t3
         have hn4 := (Only.block hg4 HZ3.out.1 (fun e => HZ3.out.2 e.symm)).trans HN3.out
         have x3 := cell_at hn4 3
         obtain ⟨fb, fq, la5, lc5, ka5, kc5, rfl, hfb, e0, e1, e2, e3, s2, s3⟩ := tl_kid (i := 1) p2' (by have := HLF.out; omega)
         have x3' : w4.cell? ⟨w2.heap.size, 3, none⟩ = some (.slice (some ⟨fb, fq, none⟩) 2 kc9) := by have h := x3; rw [HLF.out] at h; exact h
         change w4.cell? ⟨fb, fq + 4, none⟩ = _ at e0
         change w4.cell? ⟨fb, fq + 4 + 1, none⟩ = _ at e1
         change w4.cell? ⟨fb, fq + 4 + 2, none⟩ = _ at e2
         change w4.cell? ⟨fb, fq + 4 + 3, none⟩ = _ at e3
         have hfoff := hd_off HOK.out hfb
         have hfbl : fb < w4.heap.size := by omega
         have hbl4 : b < w4.heap.size := by have := HBW.out; have := HW3.out; have := hg4.size; omega
         have hkb : ∀ i, w4.cell? ⟨b, i, none⟩ = W3.cell? ⟨b, i, none⟩ := fun i => World.cell?_of_block (w := W3) (Only.block hg4 (show b < W3.heap.size by have := HBW.out; have := HW3.out; omega) HBL.out.2.1)
         obtain ⟨f0, f1, f2, f3⟩ := HFF.out
         have f0' := (hkb _).trans f0
         have f1' := (hkb _).trans f1
         have f2' := (hkb _).trans f2
         have f3' := (hkb _).trans f3
         clear f0 f1 f2 f3 x3 hn4
         have HO : Hid (∀ W, Below w4.heap.size w4 W → Calls Tryz.prog 46 #[.agg #[.int .i64 (kidT f.ks 1).k, .int .i64 (kidT f.ks 1).n, .slice la5 (kidT f.ks 1).ls.len lc5, .slice ka5 (kidT f.ks 1).ks.len kc5], .agg #[.int .i64 (kidT T1.ks 1).k, .int .i64 (kidT T1.ks 1).n, .slice la3 (kidT T1.ks 1).ls.len lc3, .slice ka3 (kidT T1.ks 1).ks.len kc3]] W (RePostQ B (bq Bl Bh (w.heap.size + 1 + 1)) w4.heap.size (openA (f.kid 1) (T1.kid 1)) W)) := Lib.hid (fun W hW =>
          r13Open_anyQ (f.kid 1) (T1.kid 1) la5 ka5 la3 ka3 lc5 kc5 lc3 kc3 B (bq Bl Bh (w.heap.size + 1 + 1)) w4.heap.size W (s2.belowQ hW hBq) (s3.belowQ hW hBq) (r2'.belowQ hW hBq) (r3'.belowQ hW hBq) (leQ hBq hW.size))
         have HAC := Lib.hid (openA_cases (f.kid 1) (T1.kid 1))
         generalize openA (f.kid 1) (T1.kid 1) = A at HO HON HAC
         have HAE : Hid (A.2 = 0 ∨ A.2 = 1 ∨ A.2 = 2) := Lib.hid (by rcases HAC.out with ⟨h, _⟩ | ⟨_, h | h⟩; exact .inl h; exact .inr (.inl h); exact .inr (.inr h))
         clear HFF HK1
         generalize kidT f.ks 1 = X2 at e0 e1 e2 e3 HO
         generalize kidT T1.ks 1 = X1 at f0' f1' f2' f3' HO
         have HSW : Hid (∀ W, w4.grownBy W (some M) → (fun (w' : World) => w'.cell? ⟨w2.heap.size, 3, none⟩ = some (.slice (some ⟨fb, fq, none⟩) 2 kc9) ∧ w'.cell? ⟨w.heap.size, 3, none⟩ = some (.slice (some ⟨b, o, none⟩) 2 kc1) ∧ w'.cell? ⟨fb, fq + 4, none⟩ = some (Value.int .i64 X2.k) ∧ w'.cell? ⟨fb, fq + 4 + 1, none⟩ = some (Value.int .i64 X2.n) ∧ w'.cell? ⟨fb, fq + 4 + 2, none⟩ = some (Value.slice la5 X2.ls.len lc5) ∧ w'.cell? ⟨fb, fq + 4 + 3, none⟩ = some (Value.slice ka5 X2.ks.len kc5) ∧ w'.cell? ⟨b, o + 4, none⟩ = some (Value.int .i64 X1.k) ∧ w'.cell? ⟨b, o + 4 + 1, none⟩ = some (Value.int .i64 X1.n) ∧ w'.cell? ⟨b, o + 4 + 2, none⟩ = some (Value.slice la3 X1.ls.len lc3) ∧ w'.cell? ⟨b, o + 4 + 3, none⟩ = some (Value.slice ka3 X1.ks.len kc3)) W) := Lib.hid (fun W hW => by
          have k : ∀ q i, q < w4.heap.size → q ≠ M → W.cell? ⟨q, i, none⟩ = w4.cell? ⟨q, i, none⟩ := fun q i h1 h2 => World.cell?_of_block (w := w4) (Only.block hW h1 h2)
          have hw2l : w2.heap.size < w4.heap.size := by have := HW3.out; have := hg4.size; omega
          have hb2M : b ≠ M := HBL.out.2.1
          exact ⟨(k _ _ hw2l (fun e => HZ3.out.2 e.symm)).trans x3', (k _ _ (by omega) (by omega)).trans t3, (k _ _ hfbl hfoff.1).trans e0, (k _ _ hfbl hfoff.1).trans e1, (k _ _ hfbl hfoff.1).trans e2, (k _ _ hfbl hfoff.1).trans e3, (k _ _ hbl4 hb2M).trans f0', (k _ _ hbl4 hb2M).trans f1', (k _ _ hbl4 hb2M).trans f2', (k _ _ hbl4 hb2M).trans f3'⟩)
         have HS2 := Lib.hid (HSW.out w4.drew ⟨rfl, rfl, rfl, Nat.le_refl _, fun _ _ _ => rfl⟩)
         clear hR2 hg4 hmc4 s2 s3 r2' r3' p2' hfb hBq hz2 m0 HL HLF e0 e1 e2 e3 f0' f1' f2' f3' t0 t1 t2 t3 tf hfoff hfbl hbl4 hkb hkq hks x3' hBM hMw
         go_wp2_with fail
         refine wp_region_L (fun (w' : World) => w'.cell? ⟨w2.heap.size, 3, none⟩ = some (.slice (some ⟨fb, fq, none⟩) 2 kc9) ∧ w'.cell? ⟨w.heap.size, 3, none⟩ = some (.slice (some ⟨b, o, none⟩) 2 kc1) ∧ w'.cell? ⟨fb, fq + 4, none⟩ = some (Value.int .i64 X2.k) ∧ w'.cell? ⟨fb, fq + 4 + 1, none⟩ = some (Value.int .i64 X2.n) ∧ w'.cell? ⟨fb, fq + 4 + 2, none⟩ = some (Value.slice la5 X2.ls.len lc5) ∧ w'.cell? ⟨fb, fq + 4 + 3, none⟩ = some (Value.slice ka5 X2.ks.len kc5) ∧ w'.cell? ⟨b, o + 4, none⟩ = some (Value.int .i64 X1.k) ∧ w'.cell? ⟨b, o + 4 + 1, none⟩ = some (Value.int .i64 X1.n) ∧ w'.cell? ⟨b, o + 4 + 2, none⟩ = some (Value.slice la3 X1.ls.len lc3) ∧ w'.cell? ⟨b, o + 4 + 3, none⟩ = some (Value.slice ka3 X1.ks.len kc3)) 13 (by kernel_rfl) ?_
         have hH := (show (fun (w' : World) => w'.cell? ⟨w2.heap.size, 3, none⟩ = some (.slice (some ⟨fb, fq, none⟩) 2 kc9) ∧ w'.cell? ⟨w.heap.size, 3, none⟩ = some (.slice (some ⟨b, o, none⟩) 2 kc1) ∧ w'.cell? ⟨fb, fq + 4, none⟩ = some (Value.int .i64 X2.k) ∧ w'.cell? ⟨fb, fq + 4 + 1, none⟩ = some (Value.int .i64 X2.n) ∧ w'.cell? ⟨fb, fq + 4 + 2, none⟩ = some (Value.slice la5 X2.ls.len lc5) ∧ w'.cell? ⟨fb, fq + 4 + 3, none⟩ = some (Value.slice ka5 X2.ks.len kc5) ∧ w'.cell? ⟨b, o + 4, none⟩ = some (Value.int .i64 X1.k) ∧ w'.cell? ⟨b, o + 4 + 1, none⟩ = some (Value.int .i64 X1.n) ∧ w'.cell? ⟨b, o + 4 + 2, none⟩ = some (Value.slice la3 X1.ls.len lc3) ∧ w'.cell? ⟨b, o + 4 + 3, none⟩ = some (Value.slice ka3 X1.ks.len kc3)) w4.drew from HS2.out)
         refine tkL 0 ?_ hH ?_ ?_
         rotate_left
         ·intro w' hSw
          obtain ⟨s0, s1, s2, s3, s4, s5, s6, s7, s8, s9⟩ := hSw
          go_simp
          try with_reducible rfl
         refine tkL 1 ?_ hH ?_ ?_
         rotate_left
         ·intro w' hSw
          obtain ⟨s0, s1, s2, s3, s4, s5, s6, s7, s8, s9⟩ := hSw
          go_simp
          try with_reducible rfl
         refine tkL 2 ?_ hH ?_ ?_
         rotate_left
         ·intro w' hSw
          obtain ⟨s0, s1, s2, s3, s4, s5, s6, s7, s8, s9⟩ := hSw
          go_simp
          try with_reducible rfl
         refine tkL 3 ?_ hH ?_ ?_
         rotate_left
         ·intro w' hSw
          obtain ⟨s0, s1, s2, s3, s4, s5, s6, s7, s8, s9⟩ := hSw
          go_simp
          try with_reducible rfl
         refine tkL 4 ?_ hH ?_ ?_
         rotate_left
         ·intro w' hSw
          obtain ⟨s0, s1, s2, s3, s4, s5, s6, s7, s8, s9⟩ := hSw
          go_simp
          try with_reducible rfl
         refine tkL 5 ?_ hH ?_ ?_
         rotate_left
         ·intro w' hSw
          obtain ⟨s0, s1, s2, s3, s4, s5, s6, s7, s8, s9⟩ := hSw
          go_simp
          try with_reducible rfl
         refine tkL 6 ?_ hH ?_ ?_
         rotate_left
         ·intro w' hSw
          obtain ⟨s0, s1, s2, s3, s4, s5, s6, s7, s8, s9⟩ := hSw
          go_simp
          try with_reducible rfl
         refine tkL 7 ?_ hH ?_ ?_
         rotate_left
         ·intro w' hSw
          obtain ⟨s0, s1, s2, s3, s4, s5, s6, s7, s8, s9⟩ := hSw
          go_simp
          try with_reducible rfl
         refine tkL 8 ?_ hH ?_ ?_
         rotate_left
         ·intro w' hSw
          obtain ⟨s0, s1, s2, s3, s4, s5, s6, s7, s8, s9⟩ := hSw
          go_simp
          try with_reducible rfl
         refine oneL 9 (fun K hK => ?_)
         go_simp
         go_at_call 46
         refine (HO.out _ ?_).mono ?_
         exact (Below.refl _ _).drew
         rintro e w3 ⟨la4, lc4, ka4, kc4, rfl, q1, q2, q3⟩
         have HP := Lib.hid (hd_put HR2.out HOK.out ((Below.refl _ _).drew) q3 HAE.out q1 q2)
         have hS3 := HSW.out w3 (Only.below M (Below.step ((Below.refl _ _).drew) q3 (Nat.le_refl _)))
         clear q1 q2 q3 hH
         have hH := (show (fun (w' : World) => w'.cell? ⟨w2.heap.size, 3, none⟩ = some (.slice (some ⟨fb, fq, none⟩) 2 kc9) ∧ w'.cell? ⟨w.heap.size, 3, none⟩ = some (.slice (some ⟨b, o, none⟩) 2 kc1) ∧ w'.cell? ⟨fb, fq + 4, none⟩ = some (Value.int .i64 X2.k) ∧ w'.cell? ⟨fb, fq + 4 + 1, none⟩ = some (Value.int .i64 X2.n) ∧ w'.cell? ⟨fb, fq + 4 + 2, none⟩ = some (Value.slice la5 X2.ls.len lc5) ∧ w'.cell? ⟨fb, fq + 4 + 3, none⟩ = some (Value.slice ka5 X2.ks.len kc5) ∧ w'.cell? ⟨b, o + 4, none⟩ = some (Value.int .i64 X1.k) ∧ w'.cell? ⟨b, o + 4 + 1, none⟩ = some (Value.int .i64 X1.n) ∧ w'.cell? ⟨b, o + 4 + 2, none⟩ = some (Value.slice la3 X1.ls.len lc3) ∧ w'.cell? ⟨b, o + 4 + 3, none⟩ = some (Value.slice ka3 X1.ks.len kc3)) w3 from hS3)
         refine hK.out _ _ hH ?_
         clear hK K hS3
         refine tkL 10 ?_ hH ?_ ?_
         rotate_left
         ·intro w' hSw
          obtain ⟨s0, s1, s2, s3, s4, s5, s6, s7, s8, s9⟩ := hSw
          go_simp
          try with_reducible rfl
         refine tkL 11 ?_ hH ?_ ?_
         rotate_left
         ·intro w' hSw
          obtain ⟨s0, s1, s2, s3, s4, s5, s6, s7, s8, s9⟩ := hSw
          go_simp
          try with_reducible rfl
         refine oneL 12 (fun K hK => ?_)
         go_simp
         go_at_call 45
         refine HP.out.mono ?_
         rintro e w5 ⟨rfl, ⟨y0, y1, y2, y3, yf, yl⟩, hg5, hm5, HN⟩
         clear hH
         have hH := (show (fun (w' : World) => w'.cell? ⟨w2.heap.size, 3, none⟩ = some (.slice (some ⟨fb, fq, none⟩) 2 kc9) ∧ w'.cell? ⟨w.heap.size, 3, none⟩ = some (.slice (some ⟨b, o, none⟩) 2 kc1) ∧ w'.cell? ⟨fb, fq + 4, none⟩ = some (Value.int .i64 X2.k) ∧ w'.cell? ⟨fb, fq + 4 + 1, none⟩ = some (Value.int .i64 X2.n) ∧ w'.cell? ⟨fb, fq + 4 + 2, none⟩ = some (Value.slice la5 X2.ls.len lc5) ∧ w'.cell? ⟨fb, fq + 4 + 3, none⟩ = some (Value.slice ka5 X2.ks.len kc5) ∧ w'.cell? ⟨b, o + 4, none⟩ = some (Value.int .i64 X1.k) ∧ w'.cell? ⟨b, o + 4 + 1, none⟩ = some (Value.int .i64 X1.n) ∧ w'.cell? ⟨b, o + 4 + 2, none⟩ = some (Value.slice la3 X1.ls.len lc3) ∧ w'.cell? ⟨b, o + 4 + 3, none⟩ = some (Value.slice ka3 X1.ks.len kc3)) w5 from HSW.out w5 hg5)
         refine hK.out _ _ hH ?_
         clear hK K HP hg5 hm5
         refine lastL (fun K hK => ?_)
         go_simp
         refine hK.out _ _ ?_
         clear hK K hH
         try simp only [Act.put, List.setIfInBounds_toArray, List.set_cons_zero, List.set_cons_succ]
         refine wpAnyL_done (by kernel_rfl) ?_ _
         go_wp2_with fail
         go_roundw
         case rel =>
          refine ⟨A.1, la4, lc4, ka4, kc4, m3 - 1, A.2.toNat, HN, Lib.hid ?_⟩
          have h9 := HBS.out.1
          have h8 := HML.out
          rcases sem_next HON.out hm1 HAC.out with ⟨g1, g2, g3⟩ | ⟨g1, g2⟩
          ·exact .inl ⟨g1, g2, g3, by omega, fun e => by omega⟩
          ·exact .inr ⟨g1, g2⟩
         case measure =>
          have h1 := mcMu_at HN.out.2.2.1
          have h2 := HMU.out
          have h8 := HML.out
          split at h1 <;> omega
       ·rw [if_neg h5] at HH2
        have d5 : (f.k != 5) = true := by rw [bne_iff_ne]; exact h5
        have HHN : Hid (H0 = .ok (appTo f (T1.kid 1)) m3) := Lib.hid HH2.out.symm
        obtain ⟨ro, hro⟩ : ∃ ro : Obj, ro = .cells #[.int .i64 f.k, .int .i64 f.n, .slice la9 f.ls.len lc9, .slice ka9 f.ks.len kc9, .int .i64 (kidT T1.ks 1).k, .int .i64 (kidT T1.ks 1).n, .slice la3 (kidT T1.ks 1).ls.len lc3, .slice ka3 (kidT T1.ks 1).ks.len kc3] 30 := ⟨_, rfl⟩
        have hb4 : Below (w2.alloc fo).heap.size (w2.alloc fo) ((w2.alloc fo).alloc ro).drew := ((Below.refl _ _).alloc (Nat.le_refl _) _).drew
        have hn4 : ((w2.alloc fo).alloc ro).drew.heap[(w2.alloc fo).heap.size]? = some ro := heap_new _ _
        have hz4 : ((w2.alloc fo).alloc ro).drew.heap.size = (w2.alloc fo).heap.size + 1 := World.size_alloc _ _
        have hz3 := HR3.out.size
        have hBl : B ≤ (w2.alloc fo).heap.size := by have := HOK.out.1; have := HOK.out.2.1; omega
        have hkp : ∀ q, (q < B ∨ (bq Bl Bh (w.heap.size + 1 + 1) q = 0 ∧ q < (w2.alloc fo).heap.size)) → ((w2.alloc fo).alloc ro).drew.heap[q]? = (w2.alloc fo).heap[q]? := fun q hq => hb4.block q (by omega)
        have hkw : ∀ q, (q < B ∨ (bq Bl Bh (w.heap.size + 1 + 1) q = 0 ∧ q < (w2.alloc fo).heap.size)) → q < B ∨ (bq Bl Bh (w.heap.size + 1 + 1) q = 0 ∧ q < ((w2.alloc fo).alloc ro).drew.heap.size) := fun q hq => by rw [hz4]; omega
        have HE3 := Lib.hid (hR3.fin (A := appTo f (T1.kid 1)) (la' := none) (lc' := 0) (ka' := some ⟨(w2.alloc fo).heap.size, 0, none⟩) (kc' := 2) HOK.out hb4 (SlIn.none _ _) (by
         refine ⟨Nat.le_refl _, by unfold maxLen; omega, (fun h => by cases h), fun _ => ⟨_, 0, rfl, .inr ⟨bq_0.2 (.inr hz3), by rw [hz4]; omega⟩, ?_⟩⟩
         rw [hro] at hn4 ⊢
         rw [hro] at hkp hkw
         exact FtIn.push (cell_at hn4 0) (cell_at hn4 1) (cell_at hn4 2) ((p1.keep hkp).weak hkw) (cell_at hn4 3) (p2.turn hkp hkw) (FtIn.push (cell_at hn4 4) (cell_at hn4 5) (cell_at hn4 6) ((r2'.keep hkp).weak hkw) (cell_at hn4 7) (r3'.turn hkp hkw) trivial)) rfl)
        obtain ⟨_, ⟨z0', z1', z2', z3', zf'⟩, _, _⟩ := (hR3.alloc HOK.out ro).cells
        subst hfo hro
        obtain ⟨x0, x1, x2, x3⟩ := cells4 hn3
        clear hR3 hn3 hg2 hmc p1 p2 r2' r3' hb4 hn4 hz4 hz3 hBl hkp hkw h5 hz1
        go_wp2_with fail
        go_region
        go_wp2_with fail
        refine bodyPost_ret (v := .agg #[.int .i64 4, .int .i64 0, .slice none 0 0, .slice (some ⟨w2.heap.size + 1, 0, none⟩) 2 2]) (by simp [results, Tryz.results31, go_sem, z0', z1', z2', z3']) rfl ?_
        rw [HHN.out]
        have HE4 := HE3.out
        simp only [World.size_alloc] at HE4
        exact HE4
     ·have d4 : (T1.k == 4) = false := beq_eq_false_iff_ne.2 h4
      rw [if_neg h4] at HH2
      have HHN : Hid (H0 = .ok T1 m) := Lib.hid HH2.out.symm
      clear h4
      go_wp2_with fail
      refine HUF.out.mono ?_
      rintro e w1 ⟨rfl, hb1⟩
      have hR1 := hR.out.turn HOK.out (Only.below M hb1) (hR.out.2.2.1.later hb1)
      have HX := Lib.hid (hR1.fin HOK.out (Below.refl _ _) hR1.2.2.2.1 hR1.2.2.2.2.1 rfl)
      clear t0 t1 t2 t3 tf z0 z1 z2 z3 zf m0 m2' hb1 HUF hR
      obtain ⟨⟨t0, t1, t2, t3, tf⟩, ⟨z0, z1, z2, z3, zf⟩, m0, _⟩ := hR1.cells
      clear hR1
      go_wp2_with fail
      refine bodyPost_ret (v := .agg #[.int .i64 T1.k, .int .i64 T1.n, .slice la1 T1.ls.len lc1, .slice ka1 T1.ks.len kc1]) (by simp [results, Tryz.results31, go_sem, z0, z1, z2, z3]) rfl ?_
      rw [HHN.out]
      exact HX.out
  ·have de : ((er : Int) == 0) = false := beq_eq_false_iff_ne.2 (by omega)
   have HX := Lib.hid (hR.out.bad HOK.out (Below.refl _ _) her T1.k T1.n la1 T1.ls.len lc1 ka1 T1.ks.len kc1)
   have HHN := Lib.hid hHn
   clear hHn her hH
   go_wp2_with fail
   refine bodyPost_ret (v := .agg #[.int .i64 T1.k, .int .i64 T1.n, .slice la1 T1.ls.len lc1, .slice ka1 T1.ks.len kc1]) (by simp [results, Tryz.results31, go_sem, z0, z1, z2, z3]) rfl ?_
   rw [HHN.out]
   exact HX.out
end Go.Proofs.YtnfhpombnbpdcaaGreat
