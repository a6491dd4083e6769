/- For all numbers the law StoreOnce returns true: what was added one by one is as what is added at once. No condition. -/
import Derived.Test.YtglggigndhbpcaaZLonce12
import Derived.Test.YtglggigndhbpcaaZHopen
import Derived.Carry
namespace Go.Proofs.Ytglggigndhbpcaa.storeOnce
open Go.ChangeShapes Go.WideShapes Go.ChangeAt Go.RowKit

theorem start {w W3 w4 : World} {X V d cz : Nat} {K : List Cl} {y xz : Option Addr} (hX : BxS W3 X (.int .i64 V) (.slice none 0 0) (.slice xz V cz)) (hT : BxS W3 (X + 1) (.int .i64 V) (.slice none 0 0) (.slice xz V cz)) (hz : IntsIn W3 (· < X) (zerosJ V) xz cz) (hb : Below w.heap.size w W3) (hxw : w.heap.size ≤ X) (hs : W3.heap.size = X + 1 + 1) (hK : ClsIn w4 (fun b => W3.heap.size ≤ b ∧ b < w4.heap.size) K y d) (b4 : Below W3.heap.size W3 w4) :
    OnSt w X (X + 1) W3.heap.size V K y d xz cz [] (zerosJ V) none 0 xz cz (.slice none 0 0) w4 := by
  have hz4 := b4.size
  have hn : ∀ b, ¬ OwnB (.slice none 0 0) b := fun b h => by unfold OwnB Value.ownBlock at h; cases h
  have hi : IntsIn w4 (fun b => b < w4.heap.size ∧ b ≠ X ∧ ¬ OwnB (.slice none 0 0) b) (zerosJ V) xz cz := (hz.keep (fun b hb => b4.block b (by omega))).weak (fun b hb => ⟨by omega, by omega, hn b⟩)
  refine ⟨?_, (b4.block _ (by omega)).trans hT, hi, .none _ _, hi, hK.weak (fun b hb => ⟨hb.1, hb.2, hn b⟩), COwn.nil _ _, hxw, by omega, by omega, by omega, hz4, Below.step hb b4 (Nat.le_refl _)⟩
  rw [zerosJ_len]
  exact (b4.block _ (by omega)).trans hX
theorem fin {w W : World} {X T D V d cz c cm : Nat} {K L : List Cl} {y xz x xm : Option Addr} {M : List Int} {v : Value} (h : OnSt w X T D V K y d xz cz L M x c xm cm v W) (hr : rgS V L M = true) (hl : L.length ≤ 30) :
    ∃ xi ci, v = .slice xi L.length ci ∧ W.cell? ⟨X, 0, none⟩ = some (.int .i64 V) ∧ W.cell? ⟨T, 0, none⟩ = some (.int .i64 V) ∧ W.cell? ⟨T, 1, none⟩ = some (.slice none 0 0) ∧ W.cell? ⟨T, 2, none⟩ = some (.slice xz V cz) ∧
      Hid (Calls Try.prog 19 #[.agg #[.int .i64 V, .slice none 0 0, .slice xz V cz], .slice xi L.length ci] W (fun e w' => ∃ x' c' xm' cm' xp n cp, e = .returned (.tuple #[.agg #[.int .i64 V, .slice x' L.length c', .slice xm' M.length cm'], .slice xp n cp, .int .i64 0]) ∧ ClsIn w' (· < w'.heap.size) L x' c' ∧ IntsIn w' (· < w'.heap.size) M xm' cm' ∧ Below W.heap.size W w')) := by
  obtain ⟨h1, h2, h3, h4, h5, h6, h7, _⟩ := h
  obtain ⟨xi, ci, rfl⟩ := h7.form
  refine ⟨xi, ci, rfl, cell_at h1 0, cell_at h2 0, cell_at h2 1, cell_at h2 2, Lib.hid ?_⟩
  have hbd := rgS_bd hr
  have := sAdd_any V [] L (zerosJ V) none xz xi 0 cz ci W.heap.size W (.none _ _) (h3.weak (fun b h => h.1)) (h7.cls.weak (fun b h => h.2)) (Nat.le_refl _) (by simp; omega) (by rw [zerosJ_len]; omega) (by simp) (six_le hr)
  rw [(once_end hr).1, (once_end hr).2.1, (once_end hr).2.2, zerosJ_len] at this
  refine this.mono ?_
  rintro e w' ⟨x', c', xm', cm', xp, cp, rfl, k1, k2, _, hb⟩
  exact ⟨x', c', xm', cm', xp, _, cp, rfl, k1, k2, hb⟩
theorem same {w W W2 : World} {X T D V d cz c cm c' cm' : Nat} {K L : List Cl} {y xz x xm x' xm' : Option Addr} {M : List Int} {v : Value} (h : OnSt w X T D V K y d xz cz L M x c xm cm v W) (k1 : ClsIn W2 (· < W2.heap.size) L x' c') (k2 : IntsIn W2 (· < W2.heap.size) M xm' cm') (hb : Below W2.heap.size W2 W) :
    (Calls Try.prog 10 #[.agg #[.int .i64 V, .slice x' L.length c', .slice xm' M.length cm'], .agg #[.int .i64 V, .slice x L.length c, .slice xm M.length cm]] W fun e w' => e = .returned (.bool true) ∧ Below W.heap.size W w') ∧
    (Calls Try.prog 10 #[.agg #[.int .i64 V, .slice x L.length c, .slice xm M.length cm], .agg #[.int .i64 V, .slice x' L.length c', .slice xm' M.length cm']] W fun e w' => e = .returned (.bool true) ∧ Below W.heap.size W w') := by
  obtain ⟨_, _, _, h4, h5, _⟩ := h
  have e1 := h4.weak (Q := (· < W.heap.size)) (fun b h => h.1)
  have e2 := h5.weak (Q := (· < W.heap.size)) (fun b h => h.1)
  have e3 := (k1.below hb).mono hb.size
  have e4 := (k2.below hb).mono hb.size
  exact ⟨r11Same_yes V L M x' xm' x xm c' cm' c cm W.heap.size W e3 e1 e4 e2 (Nat.le_refl _), r11Same_yes V L M x xm x' xm' c cm c' cm' W.heap.size W e1 e3 e2 e4 (Nat.le_refl _)⟩
set_option maxRecDepth 100000 in
set_option maxHeartbeats 16000000 in
theorem walk (n : Int) (h0 : 0 ≤ n) (h1 : n < 256) (ll cl B : Nat) (al : Option Addr) (w : World) (hl : ByIn w (· < B) ll al cl) (hB : B ≤ w.heap.size) :
    Calls Try.prog 6 #[.int .u8 n, .slice al ll cl] w fun e w' => e = .returned (.bool true) ∧ Below w.heap.size w w' := by
  have CM := Lib.hid (fun W (h : Below w.heap.size w W) => made8_any n h0 h1 ll cl B al W (hl.below (h.mono hB)) (Nat.le_trans hB h.size))
  have CV := Lib.hid (fun W => vars8_any n h0 h1 W)
  obtain ⟨hV1, hV2⟩ := varsN_bd n
  generalize varsN n = V at CM CV hV1 hV2
  have hv1 : (1 : Int) ≤ V ∧ (V : Int) ≤ 16 := by omega
  have CN : Hid (∀ W, Calls Try.prog 8 #[.int .i64 V] W (fun e w' => ∃ x c, e = .returned (.tuple #[.agg #[.int .i64 V, .slice none 0 0, .slice x V c], .int .i64 0]) ∧ IntsIn w' (· < w'.heap.size) (zerosJ V) x c ∧ Below W.heap.size W w')) := Lib.hid (fun W => by
    refine (sNew_any V W).mono ?_
    rintro e w' ⟨x, c, rfl, hi, hb⟩
    have hn := new_right hv1
    rw [hn.1] at hi ⊢
    rw [hn.2.1]
    have e : (zerosJ (V : Int).toNat).length = V := zerosJ_len _
    exact ⟨x, c, by rw [e], hi.ints, hb⟩)
  have HR0 : Hid (rgS V [] (zerosJ V) = true) := Lib.hid (by have hn := new_right hv1; have := hn.2.2; rwa [hn.1] at this)
  have CA := Lib.hid (awake11_any w)
  clear hl
  go_enter Try.func6, Try.ntmps6
  go_wp2_with fail
  refine CA.out.mono ?_
  rintro e w1 ⟨rfl, b1⟩
  have B1 := Lib.hid b1
  clear b1 CA
  go_wp2_with fail
  refine (CV.out _).mono ?_
  rintro e w' ⟨rfl, rfl⟩
  go_wp2_with fail
  refine (CN.out _).mono ?_
  rintro e w2 ⟨xz, cz, rfl, hz, b2⟩
  -- two variables hold the new store
  have hbA : Below w2.heap.size w2 (w2.alloc (.cells #[.int .i64 V, .slice none 0 0, .slice xz V cz] 25)) := (Below.refl _ _).alloc (Nat.le_refl _) _
  have q1 := heap_new w2 (.cells #[.int .i64 V, .slice none 0 0, .slice xz V cz] 25)
  have p0 := cell_at q1 0
  have p1 := cell_at q1 1
  have p2 := cell_at q1 2
  simp at p0 p1 p2
  have HX : Hid (BxS ((w2.alloc (.cells #[.int .i64 V, .slice none 0 0, .slice xz V cz] 25)).alloc (.cells #[.int .i64 V, .slice none 0 0, .slice xz V cz] 25)) w2.heap.size (.int .i64 V) (.slice none 0 0) (.slice xz V cz)) := Lib.hid ((heap_old _ _ (by simp)).trans q1)
  have HT : Hid (BxS ((w2.alloc (.cells #[.int .i64 V, .slice none 0 0, .slice xz V cz] 25)).alloc (.cells #[.int .i64 V, .slice none 0 0, .slice xz V cz] 25)) (w2.heap.size + 1) (.int .i64 V) (.slice none 0 0) (.slice xz V cz)) := Lib.hid (heap_second _ _ _)
  have HZ : Hid (IntsIn ((w2.alloc (.cells #[.int .i64 V, .slice none 0 0, .slice xz V cz] 25)).alloc (.cells #[.int .i64 V, .slice none 0 0, .slice xz V cz] 25)) (· < w2.heap.size) (zerosJ V) xz cz) := Lib.hid ((hz.keep (fun b hb => heap_old _ _ hb)).keep (fun b hb => heap_old _ _ (by simp; omega)))
  have B2 : Hid (Below w.heap.size w ((w2.alloc (.cells #[.int .i64 V, .slice none 0 0, .slice xz V cz] 25)).alloc (.cells #[.int .i64 V, .slice none 0 0, .slice xz V cz] 25))) := Lib.hid (by
    have := Below.step B1.out b2 (Nat.le_refl _)
    exact (this.alloc this.size _).alloc (by have := this.size; simp; omega) _)
  have HXW : Hid (w.heap.size ≤ w2.heap.size) := Lib.hid (Nat.le_trans B1.out.size b2.size)
  have HSZ : Hid (((w2.alloc (.cells #[.int .i64 V, .slice none 0 0, .slice xz V cz] 25)).alloc (.cells #[.int .i64 V, .slice none 0 0, .slice xz V cz] 25)).heap.size = w2.heap.size + 1 + 1) := Lib.hid (by simp)
  clear hz b2 hbA q1 CN CV
  go_wp2_with fail
  generalize (w2.alloc (.cells #[.int .i64 V, .slice none 0 0, .slice xz V cz] 25)).alloc (.cells #[.int .i64 V, .slice none 0 0, .slice xz V cz] 25) = W3 at *
  generalize w2.heap.size = X at *
  have CM3 := Lib.hid (CM.out W3 B2.out)
  refine CM3.out.mono ?_
  rintro e w4 ⟨K, y, d, rfl, hK, hKall, hK30, b4⟩
  have HC0 := Lib.hid hK.cls
  have HKA0 := Lib.hid hKall
  have B4 := Lib.hid b4
  have hd := hK.cls.1
  have hdm := hK.cls.2.1
  have HS0 := Lib.hid (fun (K' : List Cl) (h : ClsIn w4 (fun b => W3.heap.size ≤ b ∧ b < w4.heap.size) K' y d) => start HX.out HT.out HZ.out B2.out HXW.out HSZ.out h b4)
  generalize W3.heap.size = D at HC0 HS0
  clear hK hKall b4 CM CM3 HX HT HZ HSZ B1 p0 p1 p2
  by_cases h15 : 15 < K.length
  · have h15' : (15 : Int) < (K.length : Int) := by omega
    have HKK := Lib.hid (cls_take HC0.out (k := 15) (by omega))
    have HKA := Lib.hid (all_take HKA0.out 15)
    have HN : Hid ((K.take 15).length = 15) := Lib.hid (by rw [List.length_take]; omega)
    generalize K.take 15 = K' at HKK HKA HN
    have HS := Lib.hid (HS0.out K' HKK.out)
    have hd0 : (15 : Int) ≤ (d : Int) := by omega
    have hd15 : 15 ≤ d := by omega
    clear HC0 HS0 HKA0 HKK
    go_wp2_with fail
    generalize K.length = KL0 at h15 hd hK30 h15' ⊢
    go_loopw [10, 11] (fun nv iv wr => ∃ (i : Nat) (L : List Cl) (M : List Int) (x : Option Addr) (c : Nat) (xm : Option Addr) (cm : Nat) (v : Value), nv = v ∧ iv = .int .i64 i ∧ i ≤ 15 ∧ L.length ≤ i ∧ Hid (rgS V L M = true) ∧ Hid (OnSt w X (X + 1) D V K' y d xz cz L M x c xm cm v wr)) (fun _ iv _ => 15 - (intOf iv).toNat)
    case atStart => exact ⟨0, [], zerosJ V, none, 0, xz, cz, _, rfl, rfl, Nat.zero_le _, Nat.le_refl _, HR0, HS⟩
    case round =>
      obtain ⟨i, L, M, x, c, xm, cm, v, rfl, rfl, hi, hLi, hr, hS⟩ := hrel
      have hi0 : (0 : Int) ≤ (i : Int) := by omega
      by_cases hlt : i < 15
      · have hlt' : (i : Int) < (15 : Int) := by omega
        have hiK : i < K'.length := by rw [HN.out]; exact hlt
        obtain ⟨g, o, hy, hg, hc⟩ := hS.out.2.2.2.2.2.1.some (by omega)
        obtain ⟨⟨a, cap, e0, hat⟩, e1, e2⟩ := hc i hiK
        have hckB := all_getD HKA.out cl0 hiK
        have hk6 : (K'.getD i cl0).1.length ≤ 1000 := by have := (frB_of (clB_of hckB).2.1).2; omega
        have A1 := Lib.hid (once_A1 hS.out hr.out (by omega) hk6 hat)
        have A2 := Lib.hid (once_B2 hS.out hr.out (by omega) hk6 hat)
        have A3 := Lib.hid (once_B3 hS.out hr.out (by omega) hk6 hat)
        have ST := once_step hr.out (by omega) hckB
        have HTK : Hid (∀ {x' xm' : Option Addr} {c' cm' Y : Nat} {M' : List Int} {W : World}, OnMid w X (X + 1) D V K' y d xz cz L M x c xm cm u10 (L ++ [K'.getD i cl0]) M' x' c' xm' cm' Y W → _) := Lib.hid (fun h => OnMid.take h hiK (by omega))
        obtain ⟨⟨fr, tv, tw⟩, hcl⟩ : ∃ q, q = K'.getD i cl0 := ⟨_, rfl⟩
        rw [← hcl] at A1 A2 A3 ST e0 e1 e2 HTK
        simp only at A1 A2 A3 e0 e1 e2
        obtain ⟨L', hL'⟩ : ∃ q, q = addL V L M [(fr, tv, tw)] := ⟨_, rfl⟩
        rw [← hL'] at A1 A2 A3 ST
        generalize addM V L M [(fr, tv, tw)] = M' at A1 A2 A3 ST
        generalize addC V L M [(fr, tv, tw)] = C at A1 A2 A3 ST
        generalize addE V L M [(fr, tv, tw)] = E at A1 A2 A3 ST
        have HSTP := Lib.hid ST
        have z0 := cell_at hS.out.1 0
        have z1 := cell_at hS.out.1 1
        have z2 := cell_at hS.out.1 2
        simp at z0 z1 z2
        have hXl := lt_of_block hS.out.1
        have hgl := hg.2.1
        have BZ := fun p => (Below.refl wr.heap.size wr).alloc (Nat.le_refl _) p
        have BZ2 := fun p q => ((Below.refl wr.heap.size wr).alloc (Nat.le_refl _) p).alloc (by rw [World.size_alloc]; omega) q
        have y0 := fun p => (bcell (BZ p) X 0 hXl).trans z0
        have y1 := fun p => (bcell (BZ p) X 1 hXl).trans z1
        have y2 := fun p => (bcell (BZ p) X 2 hXl).trans z2
        have y3 := fun p q => (bcell (BZ2 p q) X 0 hXl).trans z0
        have y4 := fun p q => (bcell (BZ2 p q) X 1 hXl).trans z1
        have y5 := fun p q => (bcell (BZ2 p q) X 2 hXl).trans z2
        have k0 := fun p => (bcell (BZ p) g (o + i * 3) hgl).trans e0
        have k1 := fun p => (bcell (BZ p) g (o + i * 3 + 1) hgl).trans e1
        have k2 := fun p => (bcell (BZ p) g (o + i * 3 + 2) hgl).trans e2
        subst hy
        clear ST hat hc hckB hk6 BZ BZ2 hg hXl hgl hL'
        go_upto_region 13 with fail
        go_cut [12, 13, 14] from 42 to 52 (fun s12 s13 s14 wx => ∃ Y x' c' xm' cm' xp cp, s12 = .pointer (some ⟨Y, 0, none⟩) ∧ s13 = .slice xp C.length cp ∧ s14 = .int .i64 E ∧ Hid (OnMid w X (X + 1) D V K' (some ⟨g, o, none⟩) d xz cz L M x c xm cm u10 L' M' x' c' xm' cm' Y wx))
        case first =>
          go_region_law (first
            | (go_simp; go_at_call 19; (with_reducible refine A1.out.mono ?_); rintro e wC ⟨x', c', xm', cm', xp, cp, rfl, HMID⟩)
            | (go_simp; go_at_call 19; (with_reducible refine A2.out.mono ?_); rintro e wC ⟨x', c', xm', cm', xp, cp, rfl, HBZ, HMID⟩; obtain ⟨m0, m1, m2, m3⟩ := HBZ.out.facts)
            | (go_simp; go_at_call 19; (with_reducible refine A3.out.mono ?_); rintro e wC ⟨x', c', xm', cm', xp, cp, rfl, HBZ, HMID⟩; obtain ⟨m0, m1, m2, m3⟩ := HBZ.out.facts))
          all_goals go_wp2_with fail
          all_goals go_meet
          all_goals exact ⟨_, x', c', xm', cm', xp, cp, rfl, rfl, rfl, HMID⟩
        case rest =>
          obtain ⟨Y, x', c', xm', cm', xp, cp, rfl, rfl, rfl, hMID⟩ := hcut
          clear y0 y1 y2 y3 y4 y5 k0 k1 k2 z0 z1 z2 e0 e1 e2 A1 A2 A3
          rcases HSTP.out with ⟨rfl, hLL, hr2⟩ | ⟨rfl, hLL, hMM, hC⟩
          · obtain ⟨g', o', a', cap', hgo, hW⟩ := HTK.out (by rw [← hLL]; exact hMID.out)
            cases hgo
            rw [← hLL] at hW
            obtain ⟨f0, f1, f2, g2, k2, w5, HRUN, NX⟩ := hW _ rfl
            have hY := hMID.out.2.1
            have hX := hMID.out.1.1
            have c0 := cell_at hY 0
            have c1 := cell_at hY 1
            have c2 := cell_at hY 2
            have x0 := cell_at hX 0
            have x1 := cell_at hX 1
            have x2 := cell_at hX 2
            have x3 := free_of hX
            simp at c0 c1 c2 x0 x1 x2
            have hL1 : Hid (L'.length ≤ i + 1) := Lib.hid (by rw [hLL, List.length_append]; simp; omega)
            have HR2 := Lib.hid hr2
            clear hW hLL hr2 hY hX HTK hMID HSTP
            go_upto_region 20 with fail
            generalize ((wc.setCell ⟨X, 0, none⟩ (.int .i64 V)).setCell ⟨X, 1, none⟩ (.slice x' L'.length c')).setCell ⟨X, 2, none⟩ (.slice xm' M'.length cm') = W2 at f0 f1 f2 HRUN ⊢
            clear c0 c1 c2 x0 x1 x2 x3
            go_wp2_with (at_builtin; refine wpList_append_run (by rfl) _ _ _ (by rfl) (by rfl) (by rfl) HRUN.out ?_)
            go_roundw
            case rel => exact ⟨i + 1, L', M', x', c', xm', cm', _, rfl, by go_num, by omega, hL1.out, HR2, NX⟩
            case measure => simp [intOf]; omega
          · rw [hLL, hMM] at hMID
            obtain ⟨hst, hY, kL, kM, _⟩ := id hMID.out
            have c0 := cell_at hY 0
            have c1 := cell_at hY 1
            have c2 := cell_at hY 2
            have x0 := cell_at hst.1 0
            have x1 := cell_at hst.1 1
            have x2 := cell_at hst.1 2
            simp at c0 c1 c2 x0 x1 x2
            have SM := Lib.hid (same hst (kL.weak (fun b h => h.1)) (kM.weak (fun b h => h.1)) (Below.refl _ _)).1
            have d9 : ((C.length : Int) == 0) = false := by simpa using hC
            have HNX := Lib.hid (fun W (hb : Below wc.heap.size wc W) => hst.next hb)
            clear hst hY kL kM hLL hMM hMID HTK HSTP hS
            go_wp2_with fail
            refine SM.out.mono ?_
            rintro e w5 ⟨rfl, b5⟩
            have NX := Lib.hid (HNX.out w5 b5)
            clear HNX b5 SM
            go_wp2_with fail
            go_roundw
            case rel => exact ⟨i + 1, L, M, x, c, xm, cm, _, rfl, by go_num, by omega, by omega, hr, NX⟩
            case measure => simp [intOf]; omega
      · obtain rfl : i = 15 := by omega
        obtain ⟨xi, ci, rfl, x0, t0, t1, t2, HAD⟩ := fin hS.out hr.out (by omega)
        have hst := hS.out
        have x1 := cell_at hst.1 1
        have x2 := cell_at hst.1 2
        simp at x1 x2
        have HNX := Lib.hid (fun W (hb : Below wr.heap.size wr W) => hst.next hb)
        have HSM := Lib.hid (fun (W W2 : World) (hb : Below wr.heap.size wr W2) (x' xm' : Option Addr) (c' cm' : Nat) (k1 : ClsIn W (· < W.heap.size) L x' c') (k2 : IntsIn W (· < W.heap.size) M xm' cm') (hb2 : Below W.heap.size W W2) => (same (hst.next hb) k1 k2 hb2).2)
        clear hst hS hr HKA HR0 HS
        go_wp2_with fail
        refine HAD.out.mono ?_
        rintro e w5 ⟨x', c', xm', cm', xp, nn, cp, rfl, k1, k2, b5⟩
        have b5' := b5.alloc b5.size (.cells #[.int .i64 V, .slice x' L.length c', .slice xm' M.length cm'] 25)
        have SM := Lib.hid (HSM.out w5 _ b5' x' xm' c' cm' k1 k2 ((Below.refl _ _).alloc (Nat.le_refl _) _))
        have NX := Lib.hid (HNX.out _ b5')
        have hY := heap_new w5 (.cells #[.int .i64 V, .slice x' L.length c', .slice xm' M.length cm'] 25)
        have c0 := cell_at hY 0
        have c1 := cell_at hY 1
        have c2 := cell_at hY 2
        have f0 := cell_at NX.out.1 0
        have f1 := cell_at NX.out.1 1
        have f2 := cell_at NX.out.1 2
        simp at c0 c1 c2 f0 f1 f2
        clear k1 k2 b5 b5' hY HSM HNX HAD x0 x1 x2 t0 t1 t2
        go_wp2_with fail
        refine SM.out.mono ?_
        rintro e w6 ⟨rfl, b6⟩
        have HE := Lib.hid (Below.step NX.out.2.2.2.2.2.2.2.2.2.2.2.2 b6 (Nat.le_refl _))
        clear b6 SM NX
        go_wp2_with fail
        go_ret
        exact ⟨rfl, HE.out⟩

  · have h15' : ¬ (15 : Int) < (K.length : Int) := by omega
    obtain ⟨K', hK'⟩ : ∃ q, q = K := ⟨_, rfl⟩
    rw [← hK'] at HC0 HKA0
    have HKA := HKA0
    have HS := Lib.hid (HS0.out K' HC0.out)
    have HN : Hid (K'.length = K.length) := Lib.hid (by rw [hK'])
    have hd0 : (K.length : Int) ≤ (d : Int) := by omega
    clear HC0 HS0 HKA0 hK'
    go_wp2_with fail
    generalize K.length = KL at HN h15 hd hd0 hK30 ⊢
    go_loopw [10, 11] (fun nv iv wr => ∃ (i : Nat) (L : List Cl) (M : List Int) (x : Option Addr) (c : Nat) (xm : Option Addr) (cm : Nat) (v : Value), nv = v ∧ iv = .int .i64 i ∧ i ≤ KL ∧ L.length ≤ i ∧ Hid (rgS V L M = true) ∧ Hid (OnSt w X (X + 1) D V K' y d xz cz L M x c xm cm v wr)) (fun _ iv _ => KL - (intOf iv).toNat)
    case atStart => exact ⟨0, [], zerosJ V, none, 0, xz, cz, _, rfl, rfl, Nat.zero_le _, Nat.le_refl _, HR0, HS⟩
    case round =>
      obtain ⟨i, L, M, x, c, xm, cm, v, rfl, rfl, hi, hLi, hr, hS⟩ := hrel
      have hi0 : (0 : Int) ≤ (i : Int) := by omega
      by_cases hlt : i < KL
      · have hlt' : (i : Int) < (KL : Int) := by omega
        have hiK : i < K'.length := by rw [HN.out]; exact hlt
        obtain ⟨g, o, hy, hg, hc⟩ := hS.out.2.2.2.2.2.1.some (by omega)
        obtain ⟨⟨a, cap, e0, hat⟩, e1, e2⟩ := hc i hiK
        have hckB := all_getD HKA.out cl0 hiK
        have hk6 : (K'.getD i cl0).1.length ≤ 1000 := by have := (frB_of (clB_of hckB).2.1).2; omega
        have A1 := Lib.hid (once_A1 hS.out hr.out (by omega) hk6 hat)
        have A2 := Lib.hid (once_B2 hS.out hr.out (by omega) hk6 hat)
        have A3 := Lib.hid (once_B3 hS.out hr.out (by omega) hk6 hat)
        have ST := once_step hr.out (by omega) hckB
        have HTK : Hid (∀ {x' xm' : Option Addr} {c' cm' Y : Nat} {M' : List Int} {W : World}, OnMid w X (X + 1) D V K' y d xz cz L M x c xm cm u10 (L ++ [K'.getD i cl0]) M' x' c' xm' cm' Y W → _) := Lib.hid (fun h => OnMid.take h hiK (by omega))
        obtain ⟨⟨fr, tv, tw⟩, hcl⟩ : ∃ q, q = K'.getD i cl0 := ⟨_, rfl⟩
        rw [← hcl] at A1 A2 A3 ST e0 e1 e2 HTK
        simp only at A1 A2 A3 e0 e1 e2
        obtain ⟨L', hL'⟩ : ∃ q, q = addL V L M [(fr, tv, tw)] := ⟨_, rfl⟩
        rw [← hL'] at A1 A2 A3 ST
        generalize addM V L M [(fr, tv, tw)] = M' at A1 A2 A3 ST
        generalize addC V L M [(fr, tv, tw)] = C at A1 A2 A3 ST
        generalize addE V L M [(fr, tv, tw)] = E at A1 A2 A3 ST
        have HSTP := Lib.hid ST
        have z0 := cell_at hS.out.1 0
        have z1 := cell_at hS.out.1 1
        have z2 := cell_at hS.out.1 2
        simp at z0 z1 z2
        have hXl := lt_of_block hS.out.1
        have hgl := hg.2.1
        have BZ := fun p => (Below.refl wr.heap.size wr).alloc (Nat.le_refl _) p
        have BZ2 := fun p q => ((Below.refl wr.heap.size wr).alloc (Nat.le_refl _) p).alloc (by rw [World.size_alloc]; omega) q
        have y0 := fun p => (bcell (BZ p) X 0 hXl).trans z0
        have y1 := fun p => (bcell (BZ p) X 1 hXl).trans z1
        have y2 := fun p => (bcell (BZ p) X 2 hXl).trans z2
        have y3 := fun p q => (bcell (BZ2 p q) X 0 hXl).trans z0
        have y4 := fun p q => (bcell (BZ2 p q) X 1 hXl).trans z1
        have y5 := fun p q => (bcell (BZ2 p q) X 2 hXl).trans z2
        have k0 := fun p => (bcell (BZ p) g (o + i * 3) hgl).trans e0
        have k1 := fun p => (bcell (BZ p) g (o + i * 3 + 1) hgl).trans e1
        have k2 := fun p => (bcell (BZ p) g (o + i * 3 + 2) hgl).trans e2
        subst hy
        clear ST hat hc hckB hk6 BZ BZ2 hg hXl hgl hL'
        go_upto_region 13 with fail
        go_cut [12, 13, 14] from 42 to 52 (fun s12 s13 s14 wx => ∃ Y x' c' xm' cm' xp cp, s12 = .pointer (some ⟨Y, 0, none⟩) ∧ s13 = .slice xp C.length cp ∧ s14 = .int .i64 E ∧ Hid (OnMid w X (X + 1) D V K' (some ⟨g, o, none⟩) d xz cz L M x c xm cm u10 L' M' x' c' xm' cm' Y wx))
        case first =>
          go_region_law (first
            | (go_simp; go_at_call 19; (with_reducible refine A1.out.mono ?_); rintro e wC ⟨x', c', xm', cm', xp, cp, rfl, HMID⟩)
            | (go_simp; go_at_call 19; (with_reducible refine A2.out.mono ?_); rintro e wC ⟨x', c', xm', cm', xp, cp, rfl, HBZ, HMID⟩; obtain ⟨m0, m1, m2, m3⟩ := HBZ.out.facts)
            | (go_simp; go_at_call 19; (with_reducible refine A3.out.mono ?_); rintro e wC ⟨x', c', xm', cm', xp, cp, rfl, HBZ, HMID⟩; obtain ⟨m0, m1, m2, m3⟩ := HBZ.out.facts))
          all_goals go_wp2_with fail
          all_goals go_meet
          all_goals exact ⟨_, x', c', xm', cm', xp, cp, rfl, rfl, rfl, HMID⟩
        case rest =>
          obtain ⟨Y, x', c', xm', cm', xp, cp, rfl, rfl, rfl, hMID⟩ := hcut
          clear y0 y1 y2 y3 y4 y5 k0 k1 k2 z0 z1 z2 e0 e1 e2 A1 A2 A3
          rcases HSTP.out with ⟨rfl, hLL, hr2⟩ | ⟨rfl, hLL, hMM, hC⟩
          · obtain ⟨g', o', a', cap', hgo, hW⟩ := HTK.out (by rw [← hLL]; exact hMID.out)
            cases hgo
            rw [← hLL] at hW
            obtain ⟨f0, f1, f2, g2, k2, w5, HRUN, NX⟩ := hW _ rfl
            have hY := hMID.out.2.1
            have hX := hMID.out.1.1
            have c0 := cell_at hY 0
            have c1 := cell_at hY 1
            have c2 := cell_at hY 2
            have x0 := cell_at hX 0
            have x1 := cell_at hX 1
            have x2 := cell_at hX 2
            have x3 := free_of hX
            simp at c0 c1 c2 x0 x1 x2
            have hL1 : Hid (L'.length ≤ i + 1) := Lib.hid (by rw [hLL, List.length_append]; simp; omega)
            have HR2 := Lib.hid hr2
            clear hW hLL hr2 hY hX HTK hMID HSTP
            go_upto_region 20 with fail
            generalize ((wc.setCell ⟨X, 0, none⟩ (.int .i64 V)).setCell ⟨X, 1, none⟩ (.slice x' L'.length c')).setCell ⟨X, 2, none⟩ (.slice xm' M'.length cm') = W2 at f0 f1 f2 HRUN ⊢
            clear c0 c1 c2 x0 x1 x2 x3
            go_wp2_with (at_builtin; refine wpList_append_run (by rfl) _ _ _ (by rfl) (by rfl) (by rfl) HRUN.out ?_)
            go_roundw
            case rel => exact ⟨i + 1, L', M', x', c', xm', cm', _, rfl, by go_num, by omega, hL1.out, HR2, NX⟩
            case measure => simp [intOf]; omega
          · rw [hLL, hMM] at hMID
            obtain ⟨hst, hY, kL, kM, _⟩ := id hMID.out
            have c0 := cell_at hY 0
            have c1 := cell_at hY 1
            have c2 := cell_at hY 2
            have x0 := cell_at hst.1 0
            have x1 := cell_at hst.1 1
            have x2 := cell_at hst.1 2
            simp at c0 c1 c2 x0 x1 x2
            have SM := Lib.hid (same hst (kL.weak (fun b h => h.1)) (kM.weak (fun b h => h.1)) (Below.refl _ _)).1
            have d9 : ((C.length : Int) == 0) = false := by simpa using hC
            have HNX := Lib.hid (fun W (hb : Below wc.heap.size wc W) => hst.next hb)
            clear hst hY kL kM hLL hMM hMID HTK HSTP hS
            go_wp2_with fail
            refine SM.out.mono ?_
            rintro e w5 ⟨rfl, b5⟩
            have NX := Lib.hid (HNX.out w5 b5)
            clear HNX b5 SM
            go_wp2_with fail
            go_roundw
            case rel => exact ⟨i + 1, L, M, x, c, xm, cm, _, rfl, by go_num, by omega, by omega, hr, NX⟩
            case measure => simp [intOf]; omega
      · obtain rfl : i = KL := by omega
        obtain ⟨xi, ci, rfl, x0, t0, t1, t2, HAD⟩ := fin hS.out hr.out (by omega)
        have hst := hS.out
        have x1 := cell_at hst.1 1
        have x2 := cell_at hst.1 2
        simp at x1 x2
        have HNX := Lib.hid (fun W (hb : Below wr.heap.size wr W) => hst.next hb)
        have HSM := Lib.hid (fun (W W2 : World) (hb : Below wr.heap.size wr W2) (x' xm' : Option Addr) (c' cm' : Nat) (k1 : ClsIn W (· < W.heap.size) L x' c') (k2 : IntsIn W (· < W.heap.size) M xm' cm') (hb2 : Below W.heap.size W W2) => (same (hst.next hb) k1 k2 hb2).2)
        clear hst hS hr HKA HR0 HS
        go_wp2_with fail
        refine HAD.out.mono ?_
        rintro e w5 ⟨x', c', xm', cm', xp, nn, cp, rfl, k1, k2, b5⟩
        have b5' := b5.alloc b5.size (.cells #[.int .i64 V, .slice x' L.length c', .slice xm' M.length cm'] 25)
        have SM := Lib.hid (HSM.out w5 _ b5' x' xm' c' cm' k1 k2 ((Below.refl _ _).alloc (Nat.le_refl _) _))
        have NX := Lib.hid (HNX.out _ b5')
        have hY := heap_new w5 (.cells #[.int .i64 V, .slice x' L.length c', .slice xm' M.length cm'] 25)
        have c0 := cell_at hY 0
        have c1 := cell_at hY 1
        have c2 := cell_at hY 2
        have f0 := cell_at NX.out.1 0
        have f1 := cell_at NX.out.1 1
        have f2 := cell_at NX.out.1 2
        simp at c0 c1 c2 f0 f1 f2
        clear k1 k2 b5 b5' hY HSM HNX HAD x0 x1 x2 t0 t1 t2
        go_wp2_with fail
        refine SM.out.mono ?_
        rintro e w6 ⟨rfl, b6⟩
        have HE := Lib.hid (Below.step NX.out.2.2.2.2.2.2.2.2.2.2.2.2 b6 (Nat.le_refl _))
        clear b6 SM NX
        go_wp2_with fail
        go_ret
        exact ⟨rfl, HE.out⟩

theorem own : ownKnob Try.prog.godebug = none := by kernel_rfl

set_option maxRecDepth 100000 in
theorem lifted (os : Os) (started : os.Started) (H : Type) (enc : TypeId × Value → H) :
    ReturnsInHanded {} Try.checked os 6 .any (Rows.storeOnceSpec.pre6 enc Try.prog Try.f6 Rows.storeOnceRow.domain false) (Rows.storeOnceSpec.post enc Try.prog Try.f6 false true false false) := by
  refine returnsInHanded_of_change (C := Try.checked) own started (by kernel_rfl) Try.func6
    (ChangeSpec.witness6 (enc := enc) (C := Try.checked) false ⟨#[], #[.int .u8 0, .slice none 0 0], []⟩ 8 (by kernel_rfl) (by kernel_rfl) (by kernel_rfl) (by kernel_rfl)) ?_
  intro W base args ds gs before hval0 hW hcnd _
  have hval : ∀ (j : Nat) t v, Try.f6.params[j]? = some t → args[j]? = some v → Value.okWide Try.prog W .any base t v := hval0
  have hW' := hW
  obtain ⟨p, q, hA0, hV, rfl, hfz, hnd⟩ := hW
  have hA : DataW.TrodAll enc Try.prog W 0 (fun _ => true) true Try.f6.params.toList args.toList ds p := hA0
  rw [Try.params6] at hA hval
  obtain ⟨v0, vs0, d0, ds0, p0, q0, hargs, rfl, rfl, h0, hr0⟩ := trodAll_cons hA
  obtain ⟨v1, vs1, d1, ds1, p1, q1, rfl, rfl, rfl, h1, hr1⟩ := trodAll_cons hr0
  obtain ⟨rfl, rfl, rfl⟩ := trodAll_nil hr1
  obtain rfl : args = #[v0, v1] := by cases args; simp_all
  obtain ⟨rfl, rfl⟩ := trodVars_none hV
  obtain ⟨N, rfl, rfl, rfl, w0⟩ := open_int Try.underlying5 (hval 0 5 v0 rfl rfl) h0
  obtain ⟨ll, al, cl, rfl, hs1⟩ := h_arg_bytes (hval 1 39 v1 rfl rfl) h1
  have hN := h_u8_range w0
  have hlt := hW'.lt
  refine (walk N hN.1 hN.2 ll cl W.heap.size al W hs1 (Nat.le_refl _)).mono fun e W' ⟨he, hb⟩ => ?_
  subst he
  have t1 := Below.trod h_laidOut (by kernel_rfl) (of_decide_eq_true (by kernel_rfl)) h1 hb (fun x hx => hlt x (by simp [hx]))
  exact ⟨_, rfl, ⟨_, _, _, [], _, [], hW', trodAll_mk1 (shut_bool Try.underlying4 _), trodAll_mk2 (shut_int Try.underlying5 w0) t1, rfl, hb.frame _, fun h => by cases h⟩⟩

theorem over : Rows.storeOnceRow.holds Try.pinned (OpenSpec.ofChange Rows.storeOnceSpec) :=
  OpenClaim.holds_of_wide 6 Try.f6 rfl rfl rfl rfl rfl rfl rfl ⟨rfl, rfl, rfl, rfl, rfl⟩ rfl rfl rfl rfl rfl (by kernel_rfl) Try.func6 (by kernel_rfl)
    (of_decide_eq_true (by kernel_rfl)) (by unfold Func.isWrapper; first | (rw [if_pos (by decide +kernel)]; kernel_rfl) | (rw [if_neg (by decide +kernel)]; exact ⟨rfl, rfl⟩))
    (fun os started H enc _ => lifted os started H enc)

/-- THE STATEMENT -/
theorem proved : Rows.StoreOnceSaid :=
  over
#print axioms proved
end Go.Proofs.Ytglggigndhbpcaa.storeOnce
