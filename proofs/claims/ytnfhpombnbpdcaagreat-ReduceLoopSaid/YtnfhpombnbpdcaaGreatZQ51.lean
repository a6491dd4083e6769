/- Yred. No condition but those that stand in each statement. -/
import Derived.Test.YtnfhpombnbpdcaaGreatZQ44
import Derived.Test.YtnfhpombnbpdcaaGreatZQ50
import Derived.Test.YtnfhpombnbpdcaaGreatZQ48
import Derived.Test.YtnfhpombnbpdcaaGreatZQ34
namespace Go.Proofs.YtnfhpombnbpdcaaGreat
open Go.RowKit
theorem liftA_zero {A : Tm} (h : A.sh = true) : liftA A 0 0 = (A, 0) := by
  rw [liftA_yes h (by omega) (by omega), show rep1 (gL 0 0) A.k A.n A.ls A.ks 0 = A from rep_zero (wf_of_sh h)]
  unfold fin1
  rw [if_pos h]
theorem AcP.below {MB lo B : Nat} {a b : World} (h : AcP MB lo a b) (h1 : B ≤ MB) (h2 : B ≤ lo) (h3 : B ≤ a.heap.size) : Below B a b := ⟨h.1, h.2.1, h.2.2.1, h.2.2.2.1, fun q hq => h.2.2.2.2 q (by omega) (by omega) (by omega)⟩
theorem Mi.start {B MB : Nat} {ea : Option Addr} {len cap n : Nat} {T : Tm} {la : Option Addr} {lc : Nat} {ka : Option Addr} {kc : Nat} {w : World} (hM : w.heap[MB]? = some (.cells #[.slice ea len cap, .int .i64 T.k, .int .i64 T.n, .slice la T.ls.len lc, .slice ka T.ks.len kc, .slice none 0 0, .int .i64 n] 64 (0, 0))) (hls : SlIn w (· < B) T.ls la lc) (hsl : TlIn w (· < B) T.ks ka kc) (hB : B ≤ MB) :
    ∀ W, Below w.heap.size w W → w.heap.size < W.heap.size → Mi B (w.heap.size + 1) MB ea len cap T .nil n W := fun W hb hz => by
  have hl := lt_of_block hM
  have hq : ∀ b, b < B → Mx B (w.heap.size + 1) W (.slice none 0 0) b := fun b hx => ⟨.inl hx, by omega, fun e => by cases e⟩
  exact ⟨la, lc, ka, kc, .slice none 0 0, (hb.block _ hl).trans hM, (hls.keep (fun b hx => hb.block b (by have : b < B := hx; omega))).weak hq, hsl.turn (fun b hx => hb.block b (by have : b < B := hx; omega)) hq, TsMix.nil _ _ _, hB, by omega, by omega⟩
theorem RvPost.drew {V : Tm × Nat × Nat} {w w' : World} {e : Ending} (h : RvPost V w e w') : RvPost V w e w'.drew := by
  obtain ⟨la, lc, ka, kc, he, s, t, hb⟩ := h
  have hd : ∀ b : Nat, w'.drew.heap[b]? = w'.heap[b]? := fun _ => rfl
  have s2 : SlIn w'.drew (· < w'.heap.size) V.1.ls la lc := s.keep (fun b _ => hd b)
  have t2 : TlIn w'.drew (· < w'.heap.size) V.1.ks ka kc := t.turn (fun b _ => hd b) (fun _ h => h)
  exact ⟨la, lc, ka, kc, he, s2, t2, hb.drew⟩
set_option maxRecDepth 100000 in
set_option maxHeartbeats 8000000 in
theorem yReduce_any (E : List Dc) (T : Tm) (fuel : Int) (ea la ka : Option Addr) (cap lc kc B : Nat) (w : World) (hE : DsIn w (· < B) E ea cap) (hls : SlIn w (· < B) T.ls la lc) (hsl : TlIn w (· < B) T.ks ka kc) (hB : B ≤ w.heap.size) :
    Calls Tryz.prog 19 #[.slice ea E.length cap, .agg #[.int .i64 T.k, .int .i64 T.n, .slice la T.ls.len lc, .slice ka T.ks.len kc], .int .i64 fuel] w (RvPost (redV (redA E T fuel)) w) := by
  have hb0 : Below (w.heap.size + 1 + 1) (TuW w T.k T.n la ka T.ls.len lc T.ks.len kc) (TuW w T.k T.n la ka T.ls.len lc T.ks.len kc) := Below.refl _ _
  have HR : Hid (∀ W, Below (w.heap.size + 1 + 1) (TuW w T.k T.n la ka T.ls.len lc T.ks.len kc) W → Calls Tryz.prog 21 #[.slice ea E.length cap] W fun e w' => e = .returned (.bool (envB E)) ∧ Below W.heap.size W w') := Lib.hid (fun W h =>
    yRight_any E ea cap B W (hE.below ((tuW_at h).2.2.1.mono hB)) (by have := (tuW_at h).2.2.2; omega))
  have HL : Hid (∀ W, Below (w.heap.size + 1 + 1) (TuW w T.k T.n la ka T.ls.len lc T.ks.len kc) W → Calls Tryz.prog 24 #[.agg #[.int .i64 T.k, .int .i64 T.n, .slice la T.ls.len lc, .slice ka T.ks.len kc], .int .i64 1000, .int .i64 5, .int .i64 10] W fun e w' => e = .returned (.bool T.sh) ∧ Below W.heap.size W w') := Lib.hid (fun W h =>
    tRight_any 5 10 1000 T.k T.n T.ls T.ks la ka lc kc B W (hls.below ((tuW_at h).2.2.1.mono hB)) (hsl.below ((tuW_at h).2.2.1.mono hB)) (by have := (tuW_at h).2.2.2; omega))
  have HBAD : Hid (∀ (er : Nat), redA E T fuel = .no er → ∀ W, Below (w.heap.size + 1 + 1) (TuW w T.k T.n la ka T.ls.len lc T.ks.len kc) W → RvPost (redV (redA E T fuel)) w (.returned (.tuple #[.agg #[.int .i64 0, .int .i64 0, .slice none 0 0, .slice none 0 0], .int .i64 0, .int .i64 er])) ((((W.setCell ⟨w.heap.size + 1, 0, none⟩ (.int .i64 0)).setCell ⟨w.heap.size + 1, 1, none⟩ (.int .i64 0)).setCell ⟨w.heap.size + 1, 2, none⟩ (.slice none 0 0)).setCell ⟨w.heap.size + 1, 3, none⟩ (.slice none 0 0))) := Lib.hid (fun er h W hb => by
    rw [h]
    exact ⟨none, 0, none, 0, rfl, SlIn.none _ _, TlIn.none _ _, tuW_low hb _ _ _ _⟩)
  have HNO : Hid (okRd E T fuel = false → redA E T fuel = .no 1) := Lib.hid redA_no
  have HHD : Hid (∀ (n : Nat) (W : World) (M : Nat), n ≤ 5000 → T.sh = true → Below (w.heap.size + 1 + 1) (TuW w T.k T.n la ka T.ls.len lc T.ks.len kc) W → W.heap[M]? = some (.cells #[.slice ea E.length cap, .int .i64 T.k, .int .i64 T.n, .slice la T.ls.len lc, .slice ka T.ks.len kc, .slice none 0 0, .int .i64 n] 64 (0, 0)) → w.heap.size + 1 + 1 ≤ M → Calls Tryz.prog 25 #[.pointer (some ⟨M, 0, none⟩)] W (RnP (hd (E.map Dc.dl) n T) B (W.heap.size + 1) M ea E.length cap W)) := Lib.hid (fun n W M hn hs hb hm hM => by
    have hy := (tuW_at hb).2.2.1.mono hB
    have hz := lt_of_block hm
    exact yRun_any E B M ea cap T n hn W (Mi.start hm (hls.below hy) (hsl.below hy) (by omega)) (hE.below hy) (by omega) hz (sh_oka hs) (sh_big hs))
  have HOK : Hid (okRd E T fuel = (envB E && (T.sh && (decide (0 ≤ fuel) && decide (fuel ≤ 5000))))) := Lib.hid rfl
  generalize hv1 : envB E = v1 at HR HOK
  generalize hv2 : T.sh = v2 at HL HOK HHD
  clear hv1 hv2 hE hls hsl
  have HB0 := Lib.hid hb0
  have HB := Lib.hid hB
  clear hb0 hB
  go_enter Tryz.func19, Tryz.ntmps19
  go_wp2_with fail
  refine (HR.out _ HB0.out).mono ?_
  rintro e w1 ⟨rfl, hb1⟩
  have B1 := Lib.hid (tuW_step HB0.out hb1)
  clear hb1
  obtain ⟨⟨x1, x2, x3, x4⟩, ⟨z1, z2, z3, z4⟩, zf, zl⟩ := tuW_cells B1.out
  cases v1 with
  | false =>
    have HE := Lib.hid (HBAD.out 1 (HNO.out (by rw [HOK.out]; rfl)) w1 B1.out)
    go_wp2_with fail
    refine bodyPost_ret (v := .tuple #[.agg #[.int .i64 0, .int .i64 0, .slice none 0 0, .slice none 0 0], .int .i64 0, .int .i64 1]) (by simp [results, Tryz.results19, go_sem, z1, z2, z3, z4]) rfl ?_
    exact HE.out
  | true =>
    go_wp2_with fail
    refine (HL.out _ B1.out).mono ?_
    rintro e w2 ⟨rfl, hb2⟩
    have B2 := Lib.hid (tuW_step B1.out hb2)
    clear hb2 x1 x2 x3 x4 z1 z2 z3 z4 zf zl
    obtain ⟨⟨x1, x2, x3, x4⟩, ⟨z1, z2, z3, z4⟩, zf, zl⟩ := tuW_cells B2.out
    cases v2 with
    | false =>
      have HE := Lib.hid (HBAD.out 1 (HNO.out (by rw [HOK.out]; rfl)) w2 B2.out)
      go_wp2_with fail
      refine bodyPost_ret (v := .tuple #[.agg #[.int .i64 0, .int .i64 0, .slice none 0 0, .slice none 0 0], .int .i64 0, .int .i64 1]) (by simp [results, Tryz.results19, go_sem, z1, z2, z3, z4]) rfl ?_
      exact HE.out
    | true =>
      by_cases h0 : fuel < 0
      · have HE := Lib.hid (HBAD.out 1 (HNO.out (by rw [HOK.out, decide_eq_false (by omega : ¬ (0 ≤ fuel))]; rfl)) w2 B2.out)
        go_wp2_with fail
        refine bodyPost_ret (v := .tuple #[.agg #[.int .i64 0, .int .i64 0, .slice none 0 0, .slice none 0 0], .int .i64 0, .int .i64 1]) (by simp [results, Tryz.results19, go_sem, z1, z2, z3, z4]) rfl ?_
        exact HE.out
      · by_cases h5 : 5000 < fuel
        · have HE := Lib.hid (HBAD.out 1 (HNO.out (by rw [HOK.out, decide_eq_false (by omega : ¬ (fuel ≤ 5000))]; simp)) w2 B2.out)
          go_wp2_with fail
          refine bodyPost_ret (v := .tuple #[.agg #[.int .i64 0, .int .i64 0, .slice none 0 0, .slice none 0 0], .int .i64 0, .int .i64 1]) (by simp [results, Tryz.results19, go_sem, z1, z2, z3, z4]) rfl ?_
          exact HE.out
        · obtain ⟨n, rfl⟩ := Int.eq_ofNat_of_zero_le (show 0 ≤ fuel by omega)
          have HY := Lib.hid (redA_yes (E := E) (T := T) (n := n) (by rw [HOK.out, decide_eq_true (by omega : (0 : Int) ≤ n), decide_eq_true (by omega : (n : Int) ≤ 5000)]; rfl))
          have HN5 : Hid (n ≤ 5000) := Lib.hid (by omega)
          clear HNO HOK
          go_upto_region 4 with fail
          obtain ⟨w3, hw3⟩ : ∃ w3, w3 = w2.alloc (.cells #[.slice ea E.length cap, .int .i64 T.k, .int .i64 T.n, .slice la T.ls.len lc, .slice ka T.ks.len kc, .slice none 0 0, .int .i64 n] 64) := ⟨_, rfl⟩
          have hM : w3.heap[w2.heap.size]? = some (.cells #[.slice ea E.length cap, .int .i64 T.k, .int .i64 T.n, .slice la T.ls.len lc, .slice ka T.ks.len kc, .slice none 0 0, .int .i64 n] 64 (0, 0)) := by rw [hw3]; exact heap_new _ _
          have B3 : Hid (Below (w.heap.size + 1 + 1) (TuW w T.k T.n la ka T.ls.len lc T.ks.len kc) w3) := Lib.hid (by rw [hw3]; exact tuW_step B2.out ((Below.refl _ _).alloc (Nat.le_refl _) _))
          have hz2 := (tuW_at B2.out).2.2.2
          rw [← hw3]
          clear hw3 x1 x2 x3 x4 z1 z2 z3 z4 zf zl
          generalize w2.heap.size = M at hM hz2 ⊢
          have HZ := Lib.hid hz2
          have HH := Lib.hid (HHD.out n w3 M HN5.out trivial B3.out hM hz2)
          clear hz2 hM HHD
          obtain ⟨⟨x1, x2, x3, x4⟩, ⟨z1, z2, z3, z4⟩, zf, zl⟩ := tuW_cells B3.out
          generalize hd (E.map Dc.dl) n T = H at HH HY
          go_wp2_with fail
          refine HH.out.mono ?_
          intro e w4 hp
          obtain ⟨hac, hp⟩ := hp
          have B4 := Lib.hid (B3.out.trans (hac.below HZ.out (by have := (tuW_at B3.out).2.2.2; omega) (tuW_at B3.out).2.2.2))
          clear hac HH x1 x2 x3 x4 z1 z2 z3 z4 zf zl
          obtain ⟨⟨x1, x2, x3, x4⟩, ⟨z1, z2, z3, z4⟩, zf, zl⟩ := tuW_cells B4.out
          cases H with
          | no er =>
            obtain ⟨he, rfl⟩ := hp
            have d1 : ((er : Int) != 0) = true := by rw [bne_iff_ne]; omega
            have HE := Lib.hid (HBAD.out er HY.out w4 B4.out)
            go_wp2_with fail
            refine bodyPost_ret (v := .tuple #[.agg #[.int .i64 0, .int .i64 0, .slice none 0 0, .slice none 0 0], .int .i64 0, .int .i64 er]) (by simp [results, Tryz.results19, go_sem, z1, z2, z3, z4]) rfl ?_
            exact HE.out
          | ok A m =>
            obtain ⟨rfl, T2, xs, hxs, rfl, hmi⟩ := hp
            have HT := Lib.hid (yTerm_any B _ M ea E.length cap T2 xs m w4 hmi hxs)
            obtain ⟨_, _, _, _, _, hmi⟩ := hmi
            obtain ⟨⟨_, _, _, _, _, _, y6⟩, _, yl⟩ := hmi.cells
            have Y6 := Lib.hid (fun (W : World) (hb : Below w4.heap.size w4 W) => (bcell hb M 6 yl).trans y6)
            have YL := Lib.hid yl
            clear hmi y6 yl hxs
            generalize apA T2 xs = A at HT HY
            go_wp2_with fail
            refine HT.out.mono ?_
            rintro e w5 ⟨a1, c1, a2, c2, rfl, s1, s2, hb5⟩
            have B5 := Lib.hid (tuW_step B4.out hb5)
            have HB5 := Lib.hid hb5
            have HLF := Lib.hid (tLift_any A 0 0 a1 a2 c1 c2 w5.heap.size w5 s1 s2 (Nat.le_refl _))
            clear hb5 s1 s2 HT x1 x2 x3 x4 z1 z2 z3 z4 zf zl
            cases hv : A.sh with
            | false =>
              have HLA : Hid (liftA A 0 0 = (tZ, 1)) := Lib.hid (liftA_no (.inl hv))
              have HER : Hid (redA E T n = .no 2) := Lib.hid (by rw [HY.out, redH, if_neg (by rw [hv]; decide)])
              rw [HLA.out] at HLF
              clear hv HLA
              go_wp2_with fail
              refine HLF.out.mono ?_
              rintro e w6 ⟨a3, c3, a4, c4, rfl, _, _, hb6⟩
              have hb7 := Below.step hb6 ((Below.refl w6.heap.size w6).alloc (Nat.le_refl _) (.cells #[.int .i64 tZ.k, .int .i64 tZ.n, .slice a3 tZ.ls.len c3, .slice a4 tZ.ks.len c4] 30)) (Nat.le_refl _)
              have B7 := Lib.hid (tuW_step B5.out hb7)
              obtain ⟨⟨x1, x2, x3, x4⟩, ⟨z1, z2, z3, z4⟩, zf, zl⟩ := tuW_cells B7.out
              have HE := Lib.hid (HBAD.out 2 HER.out _ B7.out)
              clear hb6 hb7
              go_wp2_with fail
              refine bodyPost_ret (v := .tuple #[.agg #[.int .i64 0, .int .i64 0, .slice none 0 0, .slice none 0 0], .int .i64 0, .int .i64 2]) (by simp [results, Tryz.results19, go_sem, z1, z2, z3, z4]) rfl ?_
              exact HE.out
            | true =>
              have HLA : Hid (liftA A 0 0 = (A, 0)) := Lib.hid (liftA_zero hv)
              have HER : Hid (redV (redA E T n) = (A, m, 0)) := Lib.hid (by rw [HY.out, redH, if_pos hv]; rfl)
              rw [HLA.out] at HLF
              clear hv HLA
              go_wp2_with fail
              refine HLF.out.mono ?_
              rintro e w6 ⟨a3, c3, a4, c4, rfl, s3, s4, hb6⟩
              have hal : Below w6.heap.size w6 (w6.alloc (.cells #[.int .i64 A.k, .int .i64 A.n, .slice a3 A.ls.len c3, .slice a4 A.ks.len c4] 30)) := (Below.refl _ _).alloc (Nat.le_refl _) _
              have n0 := heap_new w6 (.cells #[.int .i64 A.k, .int .i64 A.n, .slice a3 A.ls.len c3, .slice a4 A.ks.len c4] 30)
              have hb7 := Below.step hb6 hal (Nat.le_refl _)
              have B7 := Lib.hid (tuW_step B5.out hb7)
              have S3 : Hid (SlIn (w6.alloc (.cells #[.int .i64 A.k, .int .i64 A.n, .slice a3 A.ls.len c3, .slice a4 A.ks.len c4] 30)) (fun b => w5.heap.size ≤ b ∧ b < w6.heap.size) A.ls a3 c3) := Lib.hid (s3.keep (fun b hx => hal.block b hx.2))
              have S4 : Hid (TlIn (w6.alloc (.cells #[.int .i64 A.k, .int .i64 A.n, .slice a3 A.ls.len c3, .slice a4 A.ks.len c4] 30)) (fun b => w5.heap.size ≤ b ∧ b < w6.heap.size) A.ks a4 c4) := Lib.hid (s4.turn (fun b hx => hal.block b hx.2) (fun _ h => h))
              have y6 := Y6.out _ (Below.step HB5.out hb7 (Nat.le_refl _))
              have hz5 := (tuW_at B5.out).2.2.2
              have hMz : M < w6.heap.size := by have := YL.out; have := HB5.out.size; have := hb6.size; omega
              have hz6 := hb6.size
              obtain ⟨o0, o1, o2, o3⟩ := cells4 n0
              clear s3 s4 hb6 hb7 hal n0
              go_upto_region 10 with fail
              generalize hO : w6.alloc (.cells #[.int .i64 A.k, .int .i64 A.n, .slice a3 A.ls.len c3, .slice a4 A.ks.len c4] 30) = W7 at B7 S3 S4 y6 o0 o1 o2 o3 ⊢
              have hW7 : W7.heap.size = w6.heap.size + 1 := by rw [← hO]; simp
              clear hO
              generalize w6.heap.size = O at S3 S4 o0 o1 o2 o3 hMz hz6 hW7 ⊢
              obtain ⟨⟨x1, x2, x3, x4⟩, ⟨z1, z2, z3, z4⟩, zf, zl⟩ := tuW_cells B7.out
              have hg := set4_only (w := W7) (w.heap.size + 1) (.int .i64 A.k) (.int .i64 A.n) (.slice a3 A.ls.len c3) (.slice a4 A.ks.len c4)
              have hgz := hg.size
              have HE : Hid (RvPost (redV (redA E T n)) w (.returned (.tuple #[.agg #[.int .i64 A.k, .int .i64 A.n, .slice a3 A.ls.len c3, .slice a4 A.ks.len c4], .int .i64 m, .int .i64 0])) ((((W7.setCell ⟨w.heap.size + 1, 0, none⟩ (.int .i64 A.k)).setCell ⟨w.heap.size + 1, 1, none⟩ (.int .i64 A.n)).setCell ⟨w.heap.size + 1, 2, none⟩ (.slice a3 A.ls.len c3)).setCell ⟨w.heap.size + 1, 3, none⟩ (.slice a4 A.ks.len c4))) := Lib.hid (by
                rw [HER.out]
                exact ⟨a3, c3, a4, c4, rfl, (S3.out.keep (fun b hx => Only.block hg (by omega) (by omega))).weak (fun b hx => by omega), S4.out.turn (fun b hx => Only.block hg (by omega) (by omega)) (fun b hx => by omega), tuW_low B7.out _ _ _ _⟩)
              have hMx : ¬ (w.heap.size + 1 = M) := by have := HZ.out; omega
              have hMn : (M == w.heap.size + 1) = false := beq_eq_false_iff_ne.2 (fun h => hMx h.symm)
              have hOx : ¬ (w.heap.size + 1 = O) := by omega
              clear hg hgz hW7 hz6 hMz hz5
              go_region
              go_wp2_with fail
              refine bodyPost_ret (v := .tuple #[.agg #[.int .i64 A.k, .int .i64 A.n, .slice a3 A.ls.len c3, .slice a4 A.ks.len c4], .int .i64 m, .int .i64 0]) (by simp [results, Tryz.results19, go_sem, z1, z2, z3, z4]) rfl ?_
              exact HE.out.drew
theorem yRdC : RdC := fun E T fuel ea la ka cap lc kc B w hE hl hs hB => yReduce_any E T fuel ea la ka cap lc kc B w hE hl hs hB
end Go.Proofs.YtnfhpombnbpdcaaGreat
