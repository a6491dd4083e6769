/- The contract of the law's own first question: what any right program answers. No condition. -/
import Derived.Test.YtokckghedpdfiaaTtold
import Derived.Test.YtokckghedpdfiaaTlaws
namespace Go.Proofs.Ytokckghedpdfiaa
open Go.RowKit

def sA : Tm := sortT 1 0 .nil
def tA : Tm := ⟨5, 0, .nil, .cons 1 0 .nil .nil (.cons 1 1 .nil .nil .nil)⟩
def aA : Tm := ⟨5, 0, .nil, sA.to (sA.to .nil)⟩
def bA : Tm := ⟨5, 0, .nil, .cons 1 2 .nil .nil (.cons 1 3 .nil .nil .nil)⟩
theorem awA1 : openA tA sA = (aA, 0) := by decide +kernel
theorem awA2 : liftA tA 0 2 = (bA, 0) := by decide +kernel
theorem awA3 : liftA tA 0 (-1) = (tZ, 1) := by decide +kernel
theorem awA4 : tRightB 0 0 1 tA.k tA.n tA.ls tA.ks = true := by decide +kernel
theorem awA5 : tRightB 0 0 0 tA.k tA.n tA.ls tA.ks = false := by decide +kernel
theorem awA6 : decide (Ft.cons tA.k tA.n tA.ls tA.ks .nil = Ft.cons aA.k aA.n aA.ls aA.ks .nil) = false := by decide +kernel
theorem awA7 : (if shB tA.k tA.n tA.ls tA.ks = true then fr1 tA.k tA.n tA.ks else 0) = 1 := by decide +kernel
theorem awA8 : (if shB aA.k aA.n aA.ls aA.ks = true then fr1 aA.k aA.n aA.ks else 0) = 0 := by decide +kernel
theorem smA (T : Tm) (h : T = tA ∨ T = aA) : smT T := by
  rcases h with rfl | rfl
  · refine ⟨by decide +kernel, ?_, by decide +kernel⟩
    simp [tA, Ft.lvsz, Fo.size]
  · refine ⟨by decide +kernel, ?_, by decide +kernel⟩
    simp [aA, sA, sortT, Tm.to, Ft.lvsz, Fo.size]
/-- Two terms that the law writes out itself, in the block N. -/
def LitIn (W : World) (N : Nat) (F : Ft) : Prop := TlIn W (· < N + 1) F (some ⟨N, 0, none⟩) 2 ∧ N < W.heap.size
theorem LitIn.later {W W' : World} {N : Nat} {F : Ft} (h : LitIn W N F) (hb : Below W.heap.size W W') : LitIn W' N F := ⟨h.1.below (hb.mono h.2), Nat.lt_of_lt_of_le h.2 hb.size⟩
theorem lit_ss {W : World} {N : Nat} {s : Tm} {la ka : Option Addr} {lc kc : Nat} (h : TmIn W N s la lc ka kc) :
    LitIn (W.alloc (.cells #[.int .i64 s.k, .int .i64 s.n, .slice la s.ls.len lc, .slice ka s.ks.len kc, .int .i64 s.k, .int .i64 s.n, .slice la s.ls.len lc, .slice ka s.ks.len kc] 25)) W.heap.size (s.to (s.to .nil)) := by
  have hb : Below W.heap.size W (W.alloc (.cells #[.int .i64 s.k, .int .i64 s.n, .slice la s.ls.len lc, .slice ka s.ks.len kc, .int .i64 s.k, .int .i64 s.n, .slice la s.ls.len lc, .slice ka s.ks.len kc] 25)) := (Below.refl _ _).alloc (Nat.le_refl _) _
  have h2 := heap_new W (.cells #[.int .i64 s.k, .int .i64 s.n, .slice la s.ls.len lc, .slice ka s.ks.len kc, .int .i64 s.k, .int .i64 s.n, .slice la s.ls.len lc, .slice ka s.ks.len kc] 25)
  have hl := (h.1.below (hb.mono h.2.2)).mono (show N ≤ W.heap.size + 1 by have := h.2.2; omega)
  have hk := (h.2.1.below (hb.mono h.2.2)).mono (show N ≤ W.heap.size + 1 by have := h.2.2; omega)
  exact ⟨TlIn.mk (Nat.le_refl _) (by omega) (Nat.lt_succ_self _) (FtIn.push (cell_at h2 0) (cell_at h2 1) (cell_at h2 2) hl (cell_at h2 3) hk (FtIn.push (cell_at h2 4) (cell_at h2 5) (cell_at h2 6) hl (cell_at h2 7) hk trivial)), by simp⟩
theorem lit_vv (W : World) (i j : Int) :
    LitIn (W.alloc (.cells #[.int .i64 1, .int .i64 i, .slice none 0 0, .slice none 0 0, .int .i64 1, .int .i64 j, .slice none 0 0, .slice none 0 0] 25)) W.heap.size (.cons 1 i .nil .nil (.cons 1 j .nil .nil .nil)) := by
  have h2 := heap_new W (.cells #[.int .i64 1, .int .i64 i, .slice none 0 0, .slice none 0 0, .int .i64 1, .int .i64 j, .slice none 0 0, .slice none 0 0] 25)
  exact ⟨TlIn.mk (Nat.le_refl _) (by omega) (Nat.lt_succ_self _) (FtIn.push (cell_at h2 0) (cell_at h2 1) (cell_at h2 2) (SlIn.none _ _) (cell_at h2 3) (TlIn.none _ _) (FtIn.push (cell_at h2 4) (cell_at h2 5) (cell_at h2 6) (SlIn.none _ _) (cell_at h2 7) (TlIn.none _ _) trivial)), by simp⟩

set_option maxRecDepth 100000 in
set_option maxHeartbeats 8000000 in
theorem awake13_any (w : World) : Calls Try.prog 8 #[] w fun e w' => e = .returned (.bool true) ∧ Below w.heap.size w w' := by
  have HS0 := tSort_any 1 0 .nil none 0 0 w (SlIn.none _ _) (Nat.zero_le _)
  obtain ⟨s, hs⟩ : ∃ s, sortT 1 0 .nil = s := ⟨_, rfl⟩
  rw [hs] at HS0
  have HS0 : Hid (Calls Try.prog 18 #[.agg #[.int .i64 1, .int .i64 0, .slice none 0 0]] w (TmPost 0 s w)) := Lib.hid HS0
  have HS := Lib.hid (show s = sA from hs.symm)
  clear hs
  go_enter Try.func8, Try.ntmps8
  go_wp2_with fail
  refine HS0.out.mono ?_
  rintro e w1 ⟨la, lc, ka, kc, rfl, hl1, hk1, hb1⟩
  have SB1 := Lib.hid (TmBox.new (show TmIn w1 w1.heap.size s la lc ka kc from ⟨hl1.weak (fun _ h => h.2), hk1.weak (fun _ h => h.2), Nat.le_refl _⟩))
  have HB1 := Lib.hid (Below.step hb1 ((Below.refl _ _).alloc (Nat.le_refl _) (.cells #[.int .i64 s.k, .int .i64 s.n, .slice la s.ls.len lc, .slice ka s.ks.len kc] 25)) (Nat.le_refl _))
  clear hl1 hk1 hb1 HS0
  go_wp2_with fail
  refine (tVar_any 0 _).mono ?_
  rintro e w2 ⟨rfl, hb2⟩
  have SB2 := Lib.hid (SB1.out.later hb2)
  have HB2 := Lib.hid (Below.step HB1.out hb2 (Nat.le_refl _))
  clear hb2 SB1 HB1
  go_wp2_with fail
  refine (tVar_any 1 _).mono ?_
  rintro e w3 ⟨rfl, hb3⟩
  have SB3 := Lib.hid (SB2.out.later hb3)
  have HB3 := Lib.hid (Below.step HB2.out hb3 (Nat.le_refl _))
  clear hb3 SB2 HB2
  have hal := (Below.refl w3.heap.size w3).alloc (Nat.le_refl _) (.cells #[.int .i64 1, .int .i64 0, .slice none 0 0, .slice none 0 0, .int .i64 1, .int .i64 1, .slice none 0 0, .slice none 0 0] 25)
  have HL3 := Lib.hid (lit_vv w3 0 1)
  go_wp2_with fail
  refine (tBind_any 5 _ 2 2 _).mono ?_
  rintro e w4 ⟨rfl, hb4⟩
  have SB4 := Lib.hid ((SB3.out.later hal).later hb4)
  have HB4 := Lib.hid (Below.step (Below.step HB3.out hal (Nat.le_refl _)) hb4 (Nat.le_refl _))
  have hl4 := HL3.out.later hb4
  have hal4 := (Below.refl w4.heap.size w4).alloc (Nat.le_refl _) (.cells #[.int .i64 5, .int .i64 0, .slice none 0 0, .slice (some ⟨w3.heap.size, 0, none⟩) 2 2] 25)
  have TB5 : Hid (TmBox (w4.alloc (.cells #[.int .i64 5, .int .i64 0, .slice none 0 0, .slice (some ⟨w3.heap.size, 0, none⟩) 2 2] 25)) w4.heap.size tA none 0 (some ⟨w3.heap.size, 0, none⟩) 2) := Lib.hid (TmBox.new (T := tA) (show TmIn w4 w4.heap.size tA none 0 (some ⟨w3.heap.size, 0, none⟩) 2 from ⟨SlIn.none _ _, hl4.1.mono hl4.2, Nat.le_refl _⟩))
  have SB5 := Lib.hid (SB4.out.later hal4)
  have HB5 := Lib.hid (Below.step HB4.out hal4 (Nat.le_refl _))
  have HO := tOpen_any tA s none (some ⟨w3.heap.size, 0, none⟩) la ka 0 2 lc kc _ _ (TB5.out.2.1.mono TB5.out.2.2.2) (TB5.out.2.2.1.mono TB5.out.2.2.2) (SB5.out.2.1.mono SB5.out.2.2.2) (SB5.out.2.2.1.mono SB5.out.2.2.2) (Nat.le_refl _)
  rw [HS.out, awA1, ← HS.out] at HO
  obtain ⟨a, ha⟩ : ∃ a, aA = a := ⟨_, rfl⟩
  rw [ha] at HO
  have HA := Lib.hid (show a = aA from ha.symm)
  have HO : Hid (Calls Try.prog 15 #[.agg #[.int .i64 5, .int .i64 0, .slice none 0 0, .slice (some ⟨w3.heap.size, 0, none⟩) 2 2], .agg #[.int .i64 s.k, .int .i64 s.n, .slice la s.ls.len lc, .slice ka s.ks.len kc]] _ _) := Lib.hid HO
  obtain ⟨c0, c1, c2, c3⟩ := SB5.out.cells
  clear hal hal4 hl4 hb4 SB3 HB3 SB4 HB4 HL3 ha
  go_wp2_with fail
  refine HO.out.mono ?_
  rintro e w6 ⟨ala, alc, aka, akc, rfl, hl6, hk6, hb6⟩
  have AB7 := Lib.hid (TmBox.new (show TmIn w6 w6.heap.size a ala alc aka akc from ⟨hl6.weak (fun _ h => h.2), hk6.weak (fun _ h => h.2), Nat.le_refl _⟩))
  have hal7 := (Below.refl w6.heap.size w6).alloc (Nat.le_refl _) (.cells #[.int .i64 a.k, .int .i64 a.n, .slice ala a.ls.len alc, .slice aka a.ks.len akc] 25)
  have TB7 := Lib.hid ((TB5.out.later hb6).later hal7)
  have SB7 := Lib.hid ((SB5.out.later hb6).later hal7)
  have HB7 := Lib.hid (Below.step (Below.step HB5.out hb6 (Nat.le_refl _)) hal7 (Nat.le_refl _))
  have HO2 := tLift_any tA 0 2 none (some ⟨w3.heap.size, 0, none⟩) 0 2 _ _ (TB7.out.2.1.mono TB7.out.2.2.2) (TB7.out.2.2.1.mono TB7.out.2.2.2) (Nat.le_refl _)
  obtain ⟨b, hb⟩ : ∃ b, bA = b := ⟨_, rfl⟩
  rw [awA2, hb] at HO2
  have HBB := Lib.hid (show b = bA from hb.symm)
  have HO3 := Lib.hid HO2
  clear c0 c1 c2 c3 hal7 hb6 hl6 hk6 TB5 SB5 HB5 HO hb HO2
  obtain ⟨c0, c1, c2, c3⟩ := TB7.out.cells
  go_wp2_with fail
  refine HO3.out.mono ?_
  rintro e w8 ⟨bla, blc, bka, bkc, rfl, hl8, hk8, hb8⟩
  have BB9 := Lib.hid (TmBox.new (show TmIn w8 w8.heap.size b bla blc bka bkc from ⟨hl8.weak (fun _ h => h.2), hk8.weak (fun _ h => h.2), Nat.le_refl _⟩))
  have hal9 := (Below.refl w8.heap.size w8).alloc (Nat.le_refl _) (.cells #[.int .i64 b.k, .int .i64 b.n, .slice bla b.ls.len blc, .slice bka b.ks.len bkc] 25)
  have TB9 := Lib.hid ((TB7.out.later hb8).later hal9)
  have SB9 := Lib.hid ((SB7.out.later hb8).later hal9)
  have AB9 := Lib.hid ((AB7.out.later hb8).later hal9)
  have HB9 := Lib.hid (Below.step (Below.step HB7.out hb8 (Nat.le_refl _)) hal9 (Nat.le_refl _))
  have HO4 := tLift_any tA 0 (-1) none (some ⟨w3.heap.size, 0, none⟩) 0 2 _ _ (TB9.out.2.1.mono TB9.out.2.2.2) (TB9.out.2.2.1.mono TB9.out.2.2.2) (Nat.le_refl _)
  obtain ⟨z, hz⟩ : ∃ z, tZ = z := ⟨_, rfl⟩
  rw [awA3, hz] at HO4
  have HO5 := Lib.hid HO4
  clear c0 c1 c2 c3 hal9 hb8 hl8 hk8 TB7 SB7 AB7 HB7 HO3 hz HO4
  obtain ⟨c0, c1, c2, c3⟩ := TB9.out.cells
  go_wp2_with fail
  refine HO5.out.mono ?_
  rintro e w10 ⟨zla, zlc, zka, zkc, rfl, hl10, hk10, hb10⟩
  have hal11 := (Below.refl w10.heap.size w10).alloc (Nat.le_refl _) (.cells #[.int .i64 z.k, .int .i64 z.n, .slice zla z.ls.len zlc, .slice zka z.ks.len zkc] 25)
  have TB := Lib.hid ((TB9.out.later hb10).later hal11)
  have HSB := Lib.hid ((SB9.out.later hb10).later hal11)
  have AB := Lib.hid ((AB9.out.later hb10).later hal11)
  have BB := Lib.hid ((BB9.out.later hb10).later hal11)
  have HB0 := Lib.hid (Below.step (Below.step HB9.out hb10 (Nat.le_refl _)) hal11 (Nat.le_refl _))
  clear c0 c1 c2 c3 hal11 hb10 hl10 hk10 TB9 SB9 AB9 BB9 HB9 HO5
  go_wp2_with fail
  generalize hW0 : w10.alloc (.cells #[.int .i64 z.k, .int .i64 z.n, .slice zla z.ls.len zlc, .slice zka z.ks.len zkc] 25) = W0 at TB HSB AB BB HB0 ⊢
  clear hW0
  have HNX : Hid (∀ wN : World, Below W0.heap.size W0 wN → wN.cell? ⟨w1.heap.size, 0, none⟩ = some (.int .i64 s.k) ∧ wN.cell? ⟨w1.heap.size, 1, none⟩ = some (.int .i64 s.n) ∧ wN.cell? ⟨w1.heap.size, 2, none⟩ = some (.slice la s.ls.len lc) ∧ wN.cell? ⟨w1.heap.size, 3, none⟩ = some (.slice ka s.ks.len kc) ∧ wN.cell? ⟨w4.heap.size, 0, none⟩ = some (.int .i64 tA.k) ∧ wN.cell? ⟨w4.heap.size, 1, none⟩ = some (.int .i64 tA.n) ∧ wN.cell? ⟨w4.heap.size, 2, none⟩ = some (.slice none tA.ls.len 0) ∧ wN.cell? ⟨w4.heap.size, 3, none⟩ = some (.slice (some ⟨w3.heap.size, 0, none⟩) tA.ks.len 2) ∧ wN.cell? ⟨w6.heap.size, 0, none⟩ = some (.int .i64 a.k) ∧ wN.cell? ⟨w6.heap.size, 1, none⟩ = some (.int .i64 a.n) ∧ wN.cell? ⟨w6.heap.size, 2, none⟩ = some (.slice ala a.ls.len alc) ∧ wN.cell? ⟨w6.heap.size, 3, none⟩ = some (.slice aka a.ks.len akc) ∧ wN.cell? ⟨w8.heap.size, 0, none⟩ = some (.int .i64 b.k) ∧ wN.cell? ⟨w8.heap.size, 1, none⟩ = some (.int .i64 b.n) ∧ wN.cell? ⟨w8.heap.size, 2, none⟩ = some (.slice bla b.ls.len blc) ∧ wN.cell? ⟨w8.heap.size, 3, none⟩ = some (.slice bka b.ks.len bkc)) := Lib.hid (by
    intro wN hX
    obtain ⟨x0, x1, x2, x3⟩ := (HSB.out.later hX).cells
    obtain ⟨y0, y1, y2, y3⟩ := (TB.out.later hX).cells
    obtain ⟨z0, z1, z2, z3⟩ := (AB.out.later hX).cells
    exact ⟨x0, x1, x2, x3, y0, y1, y2, y3, z0, z1, z2, z3, (BB.out.later hX).cells⟩)
  have HAS : Hid (∀ (W : World) (M : Nat), Below W0.heap.size W0 W → LitIn W M (s.to (s.to .nil)) → Calls Try.prog 19 #[.agg #[.int .i64 a.k, .int .i64 a.n, .slice ala a.ls.len alc, .slice aka a.ks.len akc], .agg #[.int .i64 5, .int .i64 0, .slice none 0 0, .slice (some ⟨M, 0, none⟩) 2 2]] W fun e w' => e = .returned (.bool true) ∧ Below W.heap.size W w') := Lib.hid (by
    intro W M h hl
    have p := (AB.out.later h).2
    have r := r13same_any (a.ks.size + 1) a.ks (s.to (s.to .nil)) (Nat.lt_succ_self _) a.k a.n 5 0 a.ls .nil ala none aka (some ⟨M, 0, none⟩) alc 0 akc 2 W.heap.size W (p.1.mono p.2.2) (SlIn.none _ _) (p.2.1.mono p.2.2) (hl.1.mono hl.2) (Nat.le_refl _)
    rw [show decide (Ft.cons a.k a.n a.ls a.ks .nil = Ft.cons 5 0 .nil (s.to (s.to .nil)) .nil) = true from decide_eq_true (by rw [HA.out, HS.out]; rfl)] at r
    exact r)
  have HBS : Hid (∀ (W : World) (M : Nat), Below W0.heap.size W0 W → LitIn W M (.cons 1 2 .nil .nil (.cons 1 3 .nil .nil .nil)) → Calls Try.prog 19 #[.agg #[.int .i64 b.k, .int .i64 b.n, .slice bla b.ls.len blc, .slice bka b.ks.len bkc], .agg #[.int .i64 5, .int .i64 0, .slice none 0 0, .slice (some ⟨M, 0, none⟩) 2 2]] W fun e w' => e = .returned (.bool true) ∧ Below W.heap.size W w') := Lib.hid (by
    intro W M h hl
    have p := (BB.out.later h).2
    have r := r13same_any (b.ks.size + 1) b.ks (.cons 1 2 .nil .nil (.cons 1 3 .nil .nil .nil)) (Nat.lt_succ_self _) b.k b.n 5 0 b.ls .nil bla none bka (some ⟨M, 0, none⟩) blc 0 bkc 2 W.heap.size W (p.1.mono p.2.2) (SlIn.none _ _) (p.2.1.mono p.2.2) (hl.1.mono hl.2) (Nat.le_refl _)
    rw [show decide (Ft.cons b.k b.n b.ls b.ks .nil = Ft.cons 5 0 .nil (.cons 1 2 .nil .nil (.cons 1 3 .nil .nil .nil)) .nil) = true from decide_eq_true (by rw [HBB.out]; rfl)] at r
    exact r)
  have HR1 : Hid (∀ W : World, Below W0.heap.size W0 W → Calls Try.prog 20 #[.agg #[.int .i64 tA.k, .int .i64 tA.n, .slice none tA.ls.len 0, .slice (some ⟨w3.heap.size, 0, none⟩) tA.ks.len 2], .int .i64 1, .int .i64 0, .int .i64 0] W fun e w' => e = .returned (.bool true) ∧ Below W.heap.size W w') := Lib.hid (by
    intro W h
    have p := (TB.out.later h).2
    have r := tRight_any 0 0 1 tA.k tA.n tA.ls tA.ks _ _ _ _ W.heap.size W (p.1.mono p.2.2) (p.2.1.mono p.2.2) (Nat.le_refl _)
    rwa [awA4] at r)
  have HR2 : Hid (∀ W : World, Below W0.heap.size W0 W → Calls Try.prog 20 #[.agg #[.int .i64 tA.k, .int .i64 tA.n, .slice none tA.ls.len 0, .slice (some ⟨w3.heap.size, 0, none⟩) tA.ks.len 2], .int .i64 0, .int .i64 0, .int .i64 0] W fun e w' => e = .returned (.bool false) ∧ Below W.heap.size W w') := Lib.hid (by
    intro W h
    have p := (TB.out.later h).2
    have r := tRight_any 0 0 0 tA.k tA.n tA.ls tA.ks _ _ _ _ W.heap.size W (p.1.mono p.2.2) (p.2.1.mono p.2.2) (Nat.le_refl _)
    rwa [awA5] at r)
  have HTT : Hid (∀ W : World, Below W0.heap.size W0 W → Calls Try.prog 16 #[.agg #[.int .i64 tA.k, .int .i64 tA.n, .slice none tA.ls.len 0, .slice (some ⟨w3.heap.size, 0, none⟩) tA.ks.len 2], .agg #[.int .i64 tA.k, .int .i64 tA.n, .slice none tA.ls.len 0, .slice (some ⟨w3.heap.size, 0, none⟩) tA.ks.len 2]] W fun e w' => e = .returned (.bool true) ∧ Below W.heap.size W w') := Lib.hid (by
    intro W h
    have p := (TB.out.later h).2
    have r := tSame_any tA.ks tA.ks tA.k tA.n tA.k tA.n tA.ls tA.ls _ _ _ _ _ _ _ _ W.heap.size W (p.1.mono p.2.2) (p.1.mono p.2.2) (p.2.1.mono p.2.2) (p.2.1.mono p.2.2) (Nat.le_refl _) (smA tA (.inl rfl)) (smA tA (.inl rfl))
    rwa [one_refl tA] at r)
  have HTA : Hid (∀ W : World, Below W0.heap.size W0 W → Calls Try.prog 16 #[.agg #[.int .i64 tA.k, .int .i64 tA.n, .slice none tA.ls.len 0, .slice (some ⟨w3.heap.size, 0, none⟩) tA.ks.len 2], .agg #[.int .i64 a.k, .int .i64 a.n, .slice ala a.ls.len alc, .slice aka a.ks.len akc]] W fun e w' => e = .returned (.bool false) ∧ Below W.heap.size W w') := Lib.hid (by
    intro W h
    have p := (TB.out.later h).2
    have q := (AB.out.later h).2
    have r := tSame_any tA.ks a.ks tA.k tA.n a.k a.n tA.ls a.ls _ _ _ _ _ _ _ _ W.heap.size W (p.1.mono p.2.2) (q.1.mono q.2.2) (p.2.1.mono p.2.2) (q.2.1.mono q.2.2) (Nat.le_refl _) (smA tA (.inl rfl)) (smA a (.inr HA.out))
    rwa [show decide (Ft.cons tA.k tA.n tA.ls tA.ks .nil = Ft.cons a.k a.n a.ls a.ks .nil) = false by rw [HA.out]; exact awA6] at r)
  have HF1 : Hid (∀ W : World, Below W0.heap.size W0 W → Calls Try.prog 21 #[.agg #[.int .i64 tA.k, .int .i64 tA.n, .slice none tA.ls.len 0, .slice (some ⟨w3.heap.size, 0, none⟩) tA.ks.len 2]] W fun e w' => e = .returned (.int .i64 1) ∧ Below W.heap.size W w') := Lib.hid (by
    intro W h
    have p := (TB.out.later h).2
    have r := tFree_any tA.k tA.n tA.ls tA.ks _ _ _ _ W.heap.size W (p.1.mono p.2.2) (p.2.1.mono p.2.2) (Nat.le_refl _)
    rwa [awA7] at r)
  have HF2 : Hid (∀ W : World, Below W0.heap.size W0 W → Calls Try.prog 21 #[.agg #[.int .i64 a.k, .int .i64 a.n, .slice ala a.ls.len alc, .slice aka a.ks.len akc]] W fun e w' => e = .returned (.int .i64 0) ∧ Below W.heap.size W w') := Lib.hid (by
    intro W h
    have p := (AB.out.later h).2
    have r := tFree_any a.k a.n a.ls a.ks _ _ _ _ W.heap.size W (p.1.mono p.2.2) (p.2.1.mono p.2.2) (Nat.le_refl _)
    rwa [show (if shB a.k a.n a.ls a.ks = true then fr1 a.k a.n a.ks else 0) = 0 by rw [HA.out]; exact awA8] at r)
  refine wp_region_held_drew (S := fun w' => Hid (Below W0.heap.size W0 w') ∧ w'.cell? ⟨w1.heap.size, 0, none⟩ = some (.int .i64 s.k) ∧ w'.cell? ⟨w1.heap.size, 1, none⟩ = some (.int .i64 s.n) ∧ w'.cell? ⟨w1.heap.size, 2, none⟩ = some (.slice la s.ls.len lc) ∧ w'.cell? ⟨w1.heap.size, 3, none⟩ = some (.slice ka s.ks.len kc) ∧ w'.cell? ⟨w4.heap.size, 0, none⟩ = some (.int .i64 tA.k) ∧ w'.cell? ⟨w4.heap.size, 1, none⟩ = some (.int .i64 tA.n) ∧ w'.cell? ⟨w4.heap.size, 2, none⟩ = some (.slice none tA.ls.len 0) ∧ w'.cell? ⟨w4.heap.size, 3, none⟩ = some (.slice (some ⟨w3.heap.size, 0, none⟩) tA.ks.len 2) ∧ w'.cell? ⟨w6.heap.size, 0, none⟩ = some (.int .i64 a.k) ∧ w'.cell? ⟨w6.heap.size, 1, none⟩ = some (.int .i64 a.n) ∧ w'.cell? ⟨w6.heap.size, 2, none⟩ = some (.slice ala a.ls.len alc) ∧ w'.cell? ⟨w6.heap.size, 3, none⟩ = some (.slice aka a.ks.len akc) ∧ w'.cell? ⟨w8.heap.size, 0, none⟩ = some (.int .i64 b.k) ∧ w'.cell? ⟨w8.heap.size, 1, none⟩ = some (.int .i64 b.n) ∧ w'.cell? ⟨w8.heap.size, 2, none⟩ = some (.slice bla b.ls.len blc) ∧ w'.cell? ⟨w8.heap.size, 3, none⟩ = some (.slice bka b.ks.len bkc)) (by kernel_rfl) (⟨Lib.hid (Below.refl _ _).drew, HNX.out _ (Below.refl _ _).drew⟩) (fun hH => ?_)
  try simp only [Act.put, List.setIfInBounds_toArray, List.set_cons_zero, List.set_cons_succ]
  refine wpAnyH_take (i := 0) (v := ?_) (by simp only [List.getElem?_toArray, List.getElem?_cons_zero]; rfl) (by kernel_rfl) (by kernel_rfl) (by kernel_rfl) (by intro _ _ _ h; exact h) (Or.inl ⟨by rfl, ?_⟩) hH ?_
  rotate_left
  · intro w' hSw
    obtain ⟨s0, s1, s2, s3, s4, s5, s6, s7, s8, s9, s10, s11, s12, s13, s14, s15, s16⟩ := hSw
    go_simp
    try with_reducible rfl
  try simp only [Act.put, List.setIfInBounds_toArray, List.set_cons_zero, List.set_cons_succ]
  refine wpAnyH_take (i := 1) (v := ?_) (by simp only [List.getElem?_toArray, List.getElem?_cons_succ, List.getElem?_cons_zero]; rfl) (by kernel_rfl) (by kernel_rfl) (by kernel_rfl) (by intro _ _ _ h; exact h) (Or.inl ⟨by rfl, ?_⟩) hH ?_
  rotate_left
  · intro w' hSw
    obtain ⟨s0, s1, s2, s3, s4, s5, s6, s7, s8, s9, s10, s11, s12, s13, s14, s15, s16⟩ := hSw
    go_simp
    try with_reducible rfl
  try simp only [Act.put, List.setIfInBounds_toArray, List.set_cons_zero, List.set_cons_succ]
  refine wpAnyH_take (i := 2) (v := ?_) (by simp only [List.getElem?_toArray, List.getElem?_cons_succ, List.getElem?_cons_zero]; rfl) (by kernel_rfl) (by kernel_rfl) (by kernel_rfl) (by intro _ _ _ h; exact h) (Or.inl ⟨by rfl, ?_⟩) hH ?_
  rotate_left
  · intro w' hSw
    obtain ⟨s0, s1, s2, s3, s4, s5, s6, s7, s8, s9, s10, s11, s12, s13, s14, s15, s16⟩ := hSw
    go_simp
    try with_reducible rfl
  try simp only [Act.put, List.setIfInBounds_toArray, List.set_cons_zero, List.set_cons_succ]
  refine wpAnyH_take (i := 3) (v := ?_) (by simp only [List.getElem?_toArray, List.getElem?_cons_succ, List.getElem?_cons_zero]; rfl) (by kernel_rfl) (by kernel_rfl) (by kernel_rfl) (by intro _ _ _ h; exact h) (Or.inl ⟨by rfl, ?_⟩) hH ?_
  rotate_left
  · intro w' hSw
    obtain ⟨s0, s1, s2, s3, s4, s5, s6, s7, s8, s9, s10, s11, s12, s13, s14, s15, s16⟩ := hSw
    go_simp
    try with_reducible rfl
  try simp only [Act.put, List.setIfInBounds_toArray, List.set_cons_zero, List.set_cons_succ]
  refine wpAnyH_take (i := 4) (v := ?_) (by simp only [List.getElem?_toArray, List.getElem?_cons_succ, List.getElem?_cons_zero]; rfl) (by kernel_rfl) (by kernel_rfl) (by kernel_rfl) (by intro _ _ _ h; exact h) (Or.inl ⟨by rfl, ?_⟩) hH ?_
  rotate_left
  · intro w' hSw
    obtain ⟨s0, s1, s2, s3, s4, s5, s6, s7, s8, s9, s10, s11, s12, s13, s14, s15, s16⟩ := hSw
    go_simp
    try with_reducible rfl
  try simp only [Act.put, List.setIfInBounds_toArray, List.set_cons_zero, List.set_cons_succ]
  refine wpAnyH_take (i := 5) (v := ?_) (by simp only [List.getElem?_toArray, List.getElem?_cons_succ, List.getElem?_cons_zero]; rfl) (by kernel_rfl) (by kernel_rfl) (by kernel_rfl) (by intro _ _ _ h; exact h) (Or.inl ⟨by rfl, ?_⟩) hH ?_
  rotate_left
  · intro w' hSw
    obtain ⟨s0, s1, s2, s3, s4, s5, s6, s7, s8, s9, s10, s11, s12, s13, s14, s15, s16⟩ := hSw
    go_simp
    try with_reducible rfl
  try simp only [Act.put, List.setIfInBounds_toArray, List.set_cons_zero, List.set_cons_succ]
  refine wpAnyH_ready (rs := [6]) (by kernel_rfl) (by simp) ?_
  refine AllReadyH.cons (o := _) (by simp only [List.getElem?_toArray, List.getElem?_cons_succ, List.getElem?_cons_zero]; rfl) (fun K hK => ?_) AllReadyH.nil
  go_simp
  have hX := Below.step hH.1.out ((Below.refl _ _).alloc (Nat.le_refl _) (.cells #[.int .i64 s.k, .int .i64 s.n, .slice la s.ls.len lc, .slice ka s.ks.len kc, .int .i64 s.k, .int .i64 s.n, .slice la s.ls.len lc, .slice ka s.ks.len kc] 25)) (Nat.le_refl _)
  have HL := Lib.hid (lit_ss (HSB.out.later hH.1.out).2)
  refine hK.out _ _ ⟨Lib.hid hX, HNX.out _ hX⟩ (fun hH => ?_)
  clear hK K hX
  try simp only [Act.put, List.setIfInBounds_toArray, List.set_cons_zero, List.set_cons_succ]
  refine wpAnyH_ready (rs := [7]) (by kernel_rfl) (by simp) ?_
  refine AllReadyH.cons (o := _) (by simp only [List.getElem?_toArray, List.getElem?_cons_succ, List.getElem?_cons_zero]; rfl) (fun K hK => ?_) AllReadyH.nil
  go_simp
  go_at_call 12
  refine (tBind_any 5 _ 2 2 _).mono ?_
  rintro e w8 ⟨rfl, hb7⟩
  have hX := Below.step hH.1.out hb7 (Nat.le_refl _)
  have HL2 := Lib.hid (HL.out.later hb7)
  clear HL
  clear hH hb7
  refine hK.out _ _ ⟨Lib.hid hX, HNX.out _ hX⟩ (fun hH => ?_)
  clear hK K hX
  try simp only [Act.put, List.setIfInBounds_toArray, List.set_cons_zero, List.set_cons_succ]
  refine wpAnyH_ready (rs := [8]) (by kernel_rfl) (by simp) ?_
  refine AllReadyH.cons (o := _) (by simp only [List.getElem?_toArray, List.getElem?_cons_succ, List.getElem?_cons_zero]; rfl) (fun K hK => ?_) AllReadyH.nil
  go_simp
  go_at_call 19
  refine (HAS.out _ _ hH.1.out HL2.out).mono ?_
  rintro e w9 ⟨rfl, hb7⟩
  have hX := Below.step hH.1.out hb7 (Nat.le_refl _)
  clear HL2
  clear hH hb7
  refine hK.out _ _ ⟨Lib.hid hX, HNX.out _ hX⟩ (fun hH => ?_)
  clear hK K hX
  try simp only [Act.put, List.setIfInBounds_toArray, List.set_cons_zero, List.set_cons_succ]
  refine wpAnyH_take (i := 9) (v := ?_) (by simp only [List.getElem?_toArray, List.getElem?_cons_succ, List.getElem?_cons_zero]; rfl) (by kernel_rfl) (by kernel_rfl) (by kernel_rfl) (by intro _ _ _ h; exact h) (Or.inl ⟨by rfl, ?_⟩) hH ?_
  rotate_left
  · intro w' hSw
    obtain ⟨s0, s1, s2, s3, s4, s5, s6, s7, s8, s9, s10, s11, s12, s13, s14, s15, s16⟩ := hSw
    go_simp
    try with_reducible rfl
  try simp only [Act.put, List.setIfInBounds_toArray, List.set_cons_zero, List.set_cons_succ]
  refine wpAnyH_take (i := 10) (v := ?_) (by simp only [List.getElem?_toArray, List.getElem?_cons_succ, List.getElem?_cons_zero]; rfl) (by kernel_rfl) (by kernel_rfl) (by kernel_rfl) (by intro _ _ _ h; exact h) (Or.inl ⟨by rfl, ?_⟩) hH ?_
  rotate_left
  · intro w' hSw
    obtain ⟨s0, s1, s2, s3, s4, s5, s6, s7, s8, s9, s10, s11, s12, s13, s14, s15, s16⟩ := hSw
    go_simp
    try with_reducible rfl
  try simp only [Act.put, List.setIfInBounds_toArray, List.set_cons_zero, List.set_cons_succ]
  refine wpAnyH_take (i := 11) (v := ?_) (by simp only [List.getElem?_toArray, List.getElem?_cons_succ, List.getElem?_cons_zero]; rfl) (by kernel_rfl) (by kernel_rfl) (by kernel_rfl) (by intro _ _ _ h; exact h) (Or.inl ⟨by rfl, ?_⟩) hH ?_
  rotate_left
  · intro w' hSw
    obtain ⟨s0, s1, s2, s3, s4, s5, s6, s7, s8, s9, s10, s11, s12, s13, s14, s15, s16⟩ := hSw
    go_simp
    try with_reducible rfl
  try simp only [Act.put, List.setIfInBounds_toArray, List.set_cons_zero, List.set_cons_succ]
  refine wpAnyH_take (i := 12) (v := ?_) (by simp only [List.getElem?_toArray, List.getElem?_cons_succ, List.getElem?_cons_zero]; rfl) (by kernel_rfl) (by kernel_rfl) (by kernel_rfl) (by intro _ _ _ h; exact h) (Or.inl ⟨by rfl, ?_⟩) hH ?_
  rotate_left
  · intro w' hSw
    obtain ⟨s0, s1, s2, s3, s4, s5, s6, s7, s8, s9, s10, s11, s12, s13, s14, s15, s16⟩ := hSw
    go_simp
    try with_reducible rfl
  try simp only [Act.put, List.setIfInBounds_toArray, List.set_cons_zero, List.set_cons_succ]
  refine wpAnyH_take (i := 13) (v := ?_) (by simp only [List.getElem?_toArray, List.getElem?_cons_succ, List.getElem?_cons_zero]; rfl) (by kernel_rfl) (by kernel_rfl) (by kernel_rfl) (by intro _ _ _ h; exact h) (Or.inl ⟨by rfl, ?_⟩) hH ?_
  rotate_left
  · intro w' hSw
    obtain ⟨s0, s1, s2, s3, s4, s5, s6, s7, s8, s9, s10, s11, s12, s13, s14, s15, s16⟩ := hSw
    go_simp
    try with_reducible rfl
  try simp only [Act.put, List.setIfInBounds_toArray, List.set_cons_zero, List.set_cons_succ]
  refine wpAnyH_take (i := 14) (v := ?_) (by simp only [List.getElem?_toArray, List.getElem?_cons_succ, List.getElem?_cons_zero]; rfl) (by kernel_rfl) (by kernel_rfl) (by kernel_rfl) (by intro _ _ _ h; exact h) (Or.inl ⟨by rfl, ?_⟩) hH ?_
  rotate_left
  · intro w' hSw
    obtain ⟨s0, s1, s2, s3, s4, s5, s6, s7, s8, s9, s10, s11, s12, s13, s14, s15, s16⟩ := hSw
    go_simp
    try with_reducible rfl
  try simp only [Act.put, List.setIfInBounds_toArray, List.set_cons_zero, List.set_cons_succ]
  refine wpAnyH_take (i := 15) (v := ?_) (by simp only [List.getElem?_toArray, List.getElem?_cons_succ, List.getElem?_cons_zero]; rfl) (by kernel_rfl) (by kernel_rfl) (by kernel_rfl) (by intro _ _ _ h; exact h) (Or.inl ⟨by rfl, ?_⟩) hH ?_
  rotate_left
  · intro w' hSw
    obtain ⟨s0, s1, s2, s3, s4, s5, s6, s7, s8, s9, s10, s11, s12, s13, s14, s15, s16⟩ := hSw
    go_simp
    try with_reducible rfl
  try simp only [Act.put, List.setIfInBounds_toArray, List.set_cons_zero, List.set_cons_succ]
  refine wpAnyH_ready (rs := [16]) (by kernel_rfl) (by simp) ?_
  refine AllReadyH.cons (o := _) (by simp only [List.getElem?_toArray, List.getElem?_cons_succ, List.getElem?_cons_zero]; rfl) (fun K hK => ?_) AllReadyH.nil
  go_simp
  go_at_call 13
  refine (tVar_any 2 _).mono ?_
  rintro e w10 ⟨rfl, hb7⟩
  have hX := Below.step hH.1.out hb7 (Nat.le_refl _)
  skip
  clear hH hb7
  refine hK.out _ _ ⟨Lib.hid hX, HNX.out _ hX⟩ (fun hH => ?_)
  clear hK K hX
  try simp only [Act.put, List.setIfInBounds_toArray, List.set_cons_zero, List.set_cons_succ]
  refine wpAnyH_ready (rs := [17]) (by kernel_rfl) (by simp) ?_
  refine AllReadyH.cons (o := _) (by simp only [List.getElem?_toArray, List.getElem?_cons_succ, List.getElem?_cons_zero]; rfl) (fun K hK => ?_) AllReadyH.nil
  go_simp
  go_at_call 13
  refine (tVar_any 3 _).mono ?_
  rintro e w11 ⟨rfl, hb7⟩
  have hX := Below.step hH.1.out hb7 (Nat.le_refl _)
  skip
  clear hH hb7
  refine hK.out _ _ ⟨Lib.hid hX, HNX.out _ hX⟩ (fun hH => ?_)
  clear hK K hX
  try simp only [Act.put, List.setIfInBounds_toArray, List.set_cons_zero, List.set_cons_succ]
  refine wpAnyH_ready (rs := [18]) (by kernel_rfl) (by simp) ?_
  refine AllReadyH.cons (o := _) (by simp only [List.getElem?_toArray, List.getElem?_cons_succ, List.getElem?_cons_zero]; rfl) (fun K hK => ?_) AllReadyH.nil
  go_simp
  have hX := Below.step hH.1.out ((Below.refl _ _).alloc (Nat.le_refl _) (.cells #[.int .i64 1, .int .i64 2, .slice none 0 0, .slice none 0 0, .int .i64 1, .int .i64 3, .slice none 0 0, .slice none 0 0] 25)) (Nat.le_refl _)
  have HL := Lib.hid (lit_vv w11 2 3)
  refine hK.out _ _ ⟨Lib.hid hX, HNX.out _ hX⟩ (fun hH => ?_)
  clear hK K hX
  try simp only [Act.put, List.setIfInBounds_toArray, List.set_cons_zero, List.set_cons_succ]
  refine wpAnyH_ready (rs := [19]) (by kernel_rfl) (by simp) ?_
  refine AllReadyH.cons (o := _) (by simp only [List.getElem?_toArray, List.getElem?_cons_succ, List.getElem?_cons_zero]; rfl) (fun K hK => ?_) AllReadyH.nil
  go_simp
  go_at_call 12
  refine (tBind_any 5 _ 2 2 _).mono ?_
  rintro e w12 ⟨rfl, hb7⟩
  have hX := Below.step hH.1.out hb7 (Nat.le_refl _)
  have HL2 := Lib.hid (HL.out.later hb7)
  clear HL
  clear hH hb7
  refine hK.out _ _ ⟨Lib.hid hX, HNX.out _ hX⟩ (fun hH => ?_)
  clear hK K hX
  try simp only [Act.put, List.setIfInBounds_toArray, List.set_cons_zero, List.set_cons_succ]
  refine wpAnyH_ready (rs := [20]) (by kernel_rfl) (by simp) ?_
  refine AllReadyH.cons (o := _) (by simp only [List.getElem?_toArray, List.getElem?_cons_succ, List.getElem?_cons_zero]; rfl) (fun K hK => ?_) AllReadyH.nil
  go_simp
  go_at_call 19
  refine (HBS.out _ _ hH.1.out HL2.out).mono ?_
  rintro e w13 ⟨rfl, hb7⟩
  have hX := Below.step hH.1.out hb7 (Nat.le_refl _)
  clear HL2
  clear hH hb7
  refine hK.out _ _ ⟨Lib.hid hX, HNX.out _ hX⟩ (fun hH => ?_)
  clear hK K hX
  try simp only [Act.put, List.setIfInBounds_toArray, List.set_cons_zero, List.set_cons_succ]
  refine wpAnyH_take (i := 21) (v := ?_) (by simp only [List.getElem?_toArray, List.getElem?_cons_succ, List.getElem?_cons_zero]; rfl) (by kernel_rfl) (by kernel_rfl) (by kernel_rfl) (by intro _ _ _ h; exact h) (Or.inl ⟨by rfl, ?_⟩) hH ?_
  rotate_left
  · intro w' hSw
    obtain ⟨s0, s1, s2, s3, s4, s5, s6, s7, s8, s9, s10, s11, s12, s13, s14, s15, s16⟩ := hSw
    go_simp
    try with_reducible rfl
  try simp only [Act.put, List.setIfInBounds_toArray, List.set_cons_zero, List.set_cons_succ]
  refine wpAnyH_take (i := 22) (v := ?_) (by simp only [List.getElem?_toArray, List.getElem?_cons_succ, List.getElem?_cons_zero]; rfl) (by kernel_rfl) (by kernel_rfl) (by kernel_rfl) (by intro _ _ _ h; exact h) (Or.inl ⟨by rfl, ?_⟩) hH ?_
  rotate_left
  · intro w' hSw
    obtain ⟨s0, s1, s2, s3, s4, s5, s6, s7, s8, s9, s10, s11, s12, s13, s14, s15, s16⟩ := hSw
    go_simp
    try with_reducible rfl
  try simp only [Act.put, List.setIfInBounds_toArray, List.set_cons_zero, List.set_cons_succ]
  refine wpAnyH_take (i := 23) (v := ?_) (by simp only [List.getElem?_toArray, List.getElem?_cons_succ, List.getElem?_cons_zero]; rfl) (by kernel_rfl) (by kernel_rfl) (by kernel_rfl) (by intro _ _ _ h; exact h) (Or.inl ⟨by rfl, ?_⟩) hH ?_
  rotate_left
  · intro w' hSw
    obtain ⟨s0, s1, s2, s3, s4, s5, s6, s7, s8, s9, s10, s11, s12, s13, s14, s15, s16⟩ := hSw
    go_simp
    try with_reducible rfl
  try simp only [Act.put, List.setIfInBounds_toArray, List.set_cons_zero, List.set_cons_succ]
  refine wpAnyH_take (i := 24) (v := ?_) (by simp only [List.getElem?_toArray, List.getElem?_cons_succ, List.getElem?_cons_zero]; rfl) (by kernel_rfl) (by kernel_rfl) (by kernel_rfl) (by intro _ _ _ h; exact h) (Or.inl ⟨by rfl, ?_⟩) hH ?_
  rotate_left
  · intro w' hSw
    obtain ⟨s0, s1, s2, s3, s4, s5, s6, s7, s8, s9, s10, s11, s12, s13, s14, s15, s16⟩ := hSw
    go_simp
    try with_reducible rfl
  try simp only [Act.put, List.setIfInBounds_toArray, List.set_cons_zero, List.set_cons_succ]
  refine wpAnyH_take (i := 25) (v := ?_) (by simp only [List.getElem?_toArray, List.getElem?_cons_succ, List.getElem?_cons_zero]; rfl) (by kernel_rfl) (by kernel_rfl) (by kernel_rfl) (by intro _ _ _ h; exact h) (Or.inl ⟨by rfl, ?_⟩) hH ?_
  rotate_left
  · intro w' hSw
    obtain ⟨s0, s1, s2, s3, s4, s5, s6, s7, s8, s9, s10, s11, s12, s13, s14, s15, s16⟩ := hSw
    go_simp
    try with_reducible rfl
  try simp only [Act.put, List.setIfInBounds_toArray, List.set_cons_zero, List.set_cons_succ]
  refine wpAnyH_take (i := 26) (v := ?_) (by simp only [List.getElem?_toArray, List.getElem?_cons_succ, List.getElem?_cons_zero]; rfl) (by kernel_rfl) (by kernel_rfl) (by kernel_rfl) (by intro _ _ _ h; exact h) (Or.inl ⟨by rfl, ?_⟩) hH ?_
  rotate_left
  · intro w' hSw
    obtain ⟨s0, s1, s2, s3, s4, s5, s6, s7, s8, s9, s10, s11, s12, s13, s14, s15, s16⟩ := hSw
    go_simp
    try with_reducible rfl
  try simp only [Act.put, List.setIfInBounds_toArray, List.set_cons_zero, List.set_cons_succ]
  refine wpAnyH_take (i := 27) (v := ?_) (by simp only [List.getElem?_toArray, List.getElem?_cons_succ, List.getElem?_cons_zero]; rfl) (by kernel_rfl) (by kernel_rfl) (by kernel_rfl) (by intro _ _ _ h; exact h) (Or.inl ⟨by rfl, ?_⟩) hH ?_
  rotate_left
  · intro w' hSw
    obtain ⟨s0, s1, s2, s3, s4, s5, s6, s7, s8, s9, s10, s11, s12, s13, s14, s15, s16⟩ := hSw
    go_simp
    try with_reducible rfl
  try simp only [Act.put, List.setIfInBounds_toArray, List.set_cons_zero, List.set_cons_succ]
  refine wpAnyH_ready (rs := [28]) (by kernel_rfl) (by simp) ?_
  refine AllReadyH.cons (o := _) (by simp only [List.getElem?_toArray, List.getElem?_cons_succ, List.getElem?_cons_zero]; rfl) (fun K hK => ?_) AllReadyH.nil
  go_simp
  go_at_call 20
  refine (HR1.out _ hH.1.out).mono ?_
  rintro e w14 ⟨rfl, hb7⟩
  have hX := Below.step hH.1.out hb7 (Nat.le_refl _)
  skip
  clear hH hb7
  refine hK.out _ _ ⟨Lib.hid hX, HNX.out _ hX⟩ (fun hH => ?_)
  clear hK K hX
  try simp only [Act.put, List.setIfInBounds_toArray, List.set_cons_zero, List.set_cons_succ]
  refine wpAnyH_take (i := 29) (v := ?_) (by simp only [List.getElem?_toArray, List.getElem?_cons_succ, List.getElem?_cons_zero]; rfl) (by kernel_rfl) (by kernel_rfl) (by kernel_rfl) (by intro _ _ _ h; exact h) (Or.inl ⟨by rfl, ?_⟩) hH ?_
  rotate_left
  · intro w' hSw
    obtain ⟨s0, s1, s2, s3, s4, s5, s6, s7, s8, s9, s10, s11, s12, s13, s14, s15, s16⟩ := hSw
    go_simp
    try with_reducible rfl
  try simp only [Act.put, List.setIfInBounds_toArray, List.set_cons_zero, List.set_cons_succ]
  refine wpAnyH_take (i := 30) (v := ?_) (by simp only [List.getElem?_toArray, List.getElem?_cons_succ, List.getElem?_cons_zero]; rfl) (by kernel_rfl) (by kernel_rfl) (by kernel_rfl) (by intro _ _ _ h; exact h) (Or.inl ⟨by rfl, ?_⟩) hH ?_
  rotate_left
  · intro w' hSw
    obtain ⟨s0, s1, s2, s3, s4, s5, s6, s7, s8, s9, s10, s11, s12, s13, s14, s15, s16⟩ := hSw
    go_simp
    try with_reducible rfl
  try simp only [Act.put, List.setIfInBounds_toArray, List.set_cons_zero, List.set_cons_succ]
  refine wpAnyH_take (i := 31) (v := ?_) (by simp only [List.getElem?_toArray, List.getElem?_cons_succ, List.getElem?_cons_zero]; rfl) (by kernel_rfl) (by kernel_rfl) (by kernel_rfl) (by intro _ _ _ h; exact h) (Or.inl ⟨by rfl, ?_⟩) hH ?_
  rotate_left
  · intro w' hSw
    obtain ⟨s0, s1, s2, s3, s4, s5, s6, s7, s8, s9, s10, s11, s12, s13, s14, s15, s16⟩ := hSw
    go_simp
    try with_reducible rfl
  try simp only [Act.put, List.setIfInBounds_toArray, List.set_cons_zero, List.set_cons_succ]
  refine wpAnyH_ready (rs := [32]) (by kernel_rfl) (by simp) ?_
  refine AllReadyH.cons (o := _) (by simp only [List.getElem?_toArray, List.getElem?_cons_succ, List.getElem?_cons_zero]; rfl) (fun K hK => ?_) AllReadyH.nil
  go_simp
  go_at_call 20
  refine (HR2.out _ hH.1.out).mono ?_
  rintro e w15 ⟨rfl, hb7⟩
  have hX := Below.step hH.1.out hb7 (Nat.le_refl _)
  skip
  clear hH hb7
  refine hK.out _ _ ⟨Lib.hid hX, HNX.out _ hX⟩ (fun hH => ?_)
  clear hK K hX
  try simp only [Act.put, List.setIfInBounds_toArray, List.set_cons_zero, List.set_cons_succ]
  refine wpAnyH_take (i := 33) (v := ?_) (by simp only [List.getElem?_toArray, List.getElem?_cons_succ, List.getElem?_cons_zero]; rfl) (by kernel_rfl) (by kernel_rfl) (by kernel_rfl) (by intro _ _ _ h; exact h) (Or.inl ⟨by rfl, ?_⟩) hH ?_
  rotate_left
  · intro w' hSw
    obtain ⟨s0, s1, s2, s3, s4, s5, s6, s7, s8, s9, s10, s11, s12, s13, s14, s15, s16⟩ := hSw
    go_simp
    try with_reducible rfl
  try simp only [Act.put, List.setIfInBounds_toArray, List.set_cons_zero, List.set_cons_succ]
  refine wpAnyH_take (i := 34) (v := ?_) (by simp only [List.getElem?_toArray, List.getElem?_cons_succ, List.getElem?_cons_zero]; rfl) (by kernel_rfl) (by kernel_rfl) (by kernel_rfl) (by intro _ _ _ h; exact h) (Or.inl ⟨by rfl, ?_⟩) hH ?_
  rotate_left
  · intro w' hSw
    obtain ⟨s0, s1, s2, s3, s4, s5, s6, s7, s8, s9, s10, s11, s12, s13, s14, s15, s16⟩ := hSw
    go_simp
    try with_reducible rfl
  try simp only [Act.put, List.setIfInBounds_toArray, List.set_cons_zero, List.set_cons_succ]
  refine wpAnyH_take (i := 35) (v := ?_) (by simp only [List.getElem?_toArray, List.getElem?_cons_succ, List.getElem?_cons_zero]; rfl) (by kernel_rfl) (by kernel_rfl) (by kernel_rfl) (by intro _ _ _ h; exact h) (Or.inl ⟨by rfl, ?_⟩) hH ?_
  rotate_left
  · intro w' hSw
    obtain ⟨s0, s1, s2, s3, s4, s5, s6, s7, s8, s9, s10, s11, s12, s13, s14, s15, s16⟩ := hSw
    go_simp
    try with_reducible rfl
  try simp only [Act.put, List.setIfInBounds_toArray, List.set_cons_zero, List.set_cons_succ]
  refine wpAnyH_take (i := 36) (v := ?_) (by simp only [List.getElem?_toArray, List.getElem?_cons_succ, List.getElem?_cons_zero]; rfl) (by kernel_rfl) (by kernel_rfl) (by kernel_rfl) (by intro _ _ _ h; exact h) (Or.inl ⟨by rfl, ?_⟩) hH ?_
  rotate_left
  · intro w' hSw
    obtain ⟨s0, s1, s2, s3, s4, s5, s6, s7, s8, s9, s10, s11, s12, s13, s14, s15, s16⟩ := hSw
    go_simp
    try with_reducible rfl
  try simp only [Act.put, List.setIfInBounds_toArray, List.set_cons_zero, List.set_cons_succ]
  refine wpAnyH_take (i := 37) (v := ?_) (by simp only [List.getElem?_toArray, List.getElem?_cons_succ, List.getElem?_cons_zero]; rfl) (by kernel_rfl) (by kernel_rfl) (by kernel_rfl) (by intro _ _ _ h; exact h) (Or.inl ⟨by rfl, ?_⟩) hH ?_
  rotate_left
  · intro w' hSw
    obtain ⟨s0, s1, s2, s3, s4, s5, s6, s7, s8, s9, s10, s11, s12, s13, s14, s15, s16⟩ := hSw
    go_simp
    try with_reducible rfl
  try simp only [Act.put, List.setIfInBounds_toArray, List.set_cons_zero, List.set_cons_succ]
  refine wpAnyH_ready (rs := [38]) (by kernel_rfl) (by simp) ?_
  refine AllReadyH.cons (o := _) (by simp only [List.getElem?_toArray, List.getElem?_cons_succ, List.getElem?_cons_zero]; rfl) (fun K hK => ?_) AllReadyH.nil
  go_simp
  go_at_call 16
  refine (HTT.out _ hH.1.out).mono ?_
  rintro e w16 ⟨rfl, hb7⟩
  have hX := Below.step hH.1.out hb7 (Nat.le_refl _)
  skip
  clear hH hb7
  refine hK.out _ _ ⟨Lib.hid hX, HNX.out _ hX⟩ (fun hH => ?_)
  clear hK K hX
  try simp only [Act.put, List.setIfInBounds_toArray, List.set_cons_zero, List.set_cons_succ]
  refine wpAnyH_take (i := 39) (v := ?_) (by simp only [List.getElem?_toArray, List.getElem?_cons_succ, List.getElem?_cons_zero]; rfl) (by kernel_rfl) (by kernel_rfl) (by kernel_rfl) (by intro _ _ _ h; exact h) (Or.inl ⟨by rfl, ?_⟩) hH ?_
  rotate_left
  · intro w' hSw
    obtain ⟨s0, s1, s2, s3, s4, s5, s6, s7, s8, s9, s10, s11, s12, s13, s14, s15, s16⟩ := hSw
    go_simp
    try with_reducible rfl
  try simp only [Act.put, List.setIfInBounds_toArray, List.set_cons_zero, List.set_cons_succ]
  refine wpAnyH_take (i := 40) (v := ?_) (by simp only [List.getElem?_toArray, List.getElem?_cons_succ, List.getElem?_cons_zero]; rfl) (by kernel_rfl) (by kernel_rfl) (by kernel_rfl) (by intro _ _ _ h; exact h) (Or.inl ⟨by rfl, ?_⟩) hH ?_
  rotate_left
  · intro w' hSw
    obtain ⟨s0, s1, s2, s3, s4, s5, s6, s7, s8, s9, s10, s11, s12, s13, s14, s15, s16⟩ := hSw
    go_simp
    try with_reducible rfl
  try simp only [Act.put, List.setIfInBounds_toArray, List.set_cons_zero, List.set_cons_succ]
  refine wpAnyH_take (i := 41) (v := ?_) (by simp only [List.getElem?_toArray, List.getElem?_cons_succ, List.getElem?_cons_zero]; rfl) (by kernel_rfl) (by kernel_rfl) (by kernel_rfl) (by intro _ _ _ h; exact h) (Or.inl ⟨by rfl, ?_⟩) hH ?_
  rotate_left
  · intro w' hSw
    obtain ⟨s0, s1, s2, s3, s4, s5, s6, s7, s8, s9, s10, s11, s12, s13, s14, s15, s16⟩ := hSw
    go_simp
    try with_reducible rfl
  try simp only [Act.put, List.setIfInBounds_toArray, List.set_cons_zero, List.set_cons_succ]
  refine wpAnyH_take (i := 42) (v := ?_) (by simp only [List.getElem?_toArray, List.getElem?_cons_succ, List.getElem?_cons_zero]; rfl) (by kernel_rfl) (by kernel_rfl) (by kernel_rfl) (by intro _ _ _ h; exact h) (Or.inl ⟨by rfl, ?_⟩) hH ?_
  rotate_left
  · intro w' hSw
    obtain ⟨s0, s1, s2, s3, s4, s5, s6, s7, s8, s9, s10, s11, s12, s13, s14, s15, s16⟩ := hSw
    go_simp
    try with_reducible rfl
  try simp only [Act.put, List.setIfInBounds_toArray, List.set_cons_zero, List.set_cons_succ]
  refine wpAnyH_ready (rs := [43]) (by kernel_rfl) (by simp) ?_
  refine AllReadyH.cons (o := _) (by simp only [List.getElem?_toArray, List.getElem?_cons_succ, List.getElem?_cons_zero]; rfl) (fun K hK => ?_) AllReadyH.nil
  go_simp
  go_at_call 16
  refine (HTA.out _ hH.1.out).mono ?_
  rintro e w17 ⟨rfl, hb7⟩
  have hX := Below.step hH.1.out hb7 (Nat.le_refl _)
  skip
  clear hH hb7
  refine hK.out _ _ ⟨Lib.hid hX, HNX.out _ hX⟩ (fun hH => ?_)
  clear hK K hX
  try simp only [Act.put, List.setIfInBounds_toArray, List.set_cons_zero, List.set_cons_succ]
  refine wpAnyH_take (i := 44) (v := ?_) (by simp only [List.getElem?_toArray, List.getElem?_cons_succ, List.getElem?_cons_zero]; rfl) (by kernel_rfl) (by kernel_rfl) (by kernel_rfl) (by intro _ _ _ h; exact h) (Or.inl ⟨by rfl, ?_⟩) hH ?_
  rotate_left
  · intro w' hSw
    obtain ⟨s0, s1, s2, s3, s4, s5, s6, s7, s8, s9, s10, s11, s12, s13, s14, s15, s16⟩ := hSw
    go_simp
    try with_reducible rfl
  try simp only [Act.put, List.setIfInBounds_toArray, List.set_cons_zero, List.set_cons_succ]
  refine wpAnyH_take (i := 45) (v := ?_) (by simp only [List.getElem?_toArray, List.getElem?_cons_succ, List.getElem?_cons_zero]; rfl) (by kernel_rfl) (by kernel_rfl) (by kernel_rfl) (by intro _ _ _ h; exact h) (Or.inl ⟨by rfl, ?_⟩) hH ?_
  rotate_left
  · intro w' hSw
    obtain ⟨s0, s1, s2, s3, s4, s5, s6, s7, s8, s9, s10, s11, s12, s13, s14, s15, s16⟩ := hSw
    go_simp
    try with_reducible rfl
  try simp only [Act.put, List.setIfInBounds_toArray, List.set_cons_zero, List.set_cons_succ]
  refine wpAnyH_take (i := 46) (v := ?_) (by simp only [List.getElem?_toArray, List.getElem?_cons_succ, List.getElem?_cons_zero]; rfl) (by kernel_rfl) (by kernel_rfl) (by kernel_rfl) (by intro _ _ _ h; exact h) (Or.inl ⟨by rfl, ?_⟩) hH ?_
  rotate_left
  · intro w' hSw
    obtain ⟨s0, s1, s2, s3, s4, s5, s6, s7, s8, s9, s10, s11, s12, s13, s14, s15, s16⟩ := hSw
    go_simp
    try with_reducible rfl
  try simp only [Act.put, List.setIfInBounds_toArray, List.set_cons_zero, List.set_cons_succ]
  refine wpAnyH_take (i := 47) (v := ?_) (by simp only [List.getElem?_toArray, List.getElem?_cons_succ, List.getElem?_cons_zero]; rfl) (by kernel_rfl) (by kernel_rfl) (by kernel_rfl) (by intro _ _ _ h; exact h) (Or.inl ⟨by rfl, ?_⟩) hH ?_
  rotate_left
  · intro w' hSw
    obtain ⟨s0, s1, s2, s3, s4, s5, s6, s7, s8, s9, s10, s11, s12, s13, s14, s15, s16⟩ := hSw
    go_simp
    try with_reducible rfl
  try simp only [Act.put, List.setIfInBounds_toArray, List.set_cons_zero, List.set_cons_succ]
  refine wpAnyH_ready (rs := [48]) (by kernel_rfl) (by simp) ?_
  refine AllReadyH.cons (o := _) (by simp only [List.getElem?_toArray, List.getElem?_cons_succ, List.getElem?_cons_zero]; rfl) (fun K hK => ?_) AllReadyH.nil
  go_simp
  go_at_call 21
  refine (HF1.out _ hH.1.out).mono ?_
  rintro e w18 ⟨rfl, hb7⟩
  have hX := Below.step hH.1.out hb7 (Nat.le_refl _)
  skip
  clear hH hb7
  refine hK.out _ _ ⟨Lib.hid hX, HNX.out _ hX⟩ (fun hH => ?_)
  clear hK K hX
  try simp only [Act.put, List.setIfInBounds_toArray, List.set_cons_zero, List.set_cons_succ]
  refine wpAnyH_take (i := 49) (v := ?_) (by simp only [List.getElem?_toArray, List.getElem?_cons_succ, List.getElem?_cons_zero]; rfl) (by kernel_rfl) (by kernel_rfl) (by kernel_rfl) (by intro _ _ _ h; exact h) (Or.inl ⟨by rfl, ?_⟩) hH ?_
  rotate_left
  · intro w' hSw
    obtain ⟨s0, s1, s2, s3, s4, s5, s6, s7, s8, s9, s10, s11, s12, s13, s14, s15, s16⟩ := hSw
    go_simp
    try with_reducible rfl
  try simp only [Act.put, List.setIfInBounds_toArray, List.set_cons_zero, List.set_cons_succ]
  refine wpAnyH_take (i := 50) (v := ?_) (by simp only [List.getElem?_toArray, List.getElem?_cons_succ, List.getElem?_cons_zero]; rfl) (by kernel_rfl) (by kernel_rfl) (by kernel_rfl) (by intro _ _ _ h; exact h) (Or.inl ⟨by rfl, ?_⟩) hH ?_
  rotate_left
  · intro w' hSw
    obtain ⟨s0, s1, s2, s3, s4, s5, s6, s7, s8, s9, s10, s11, s12, s13, s14, s15, s16⟩ := hSw
    go_simp
    try with_reducible rfl
  try simp only [Act.put, List.setIfInBounds_toArray, List.set_cons_zero, List.set_cons_succ]
  refine wpAnyH_take (i := 51) (v := ?_) (by simp only [List.getElem?_toArray, List.getElem?_cons_succ, List.getElem?_cons_zero]; rfl) (by kernel_rfl) (by kernel_rfl) (by kernel_rfl) (by intro _ _ _ h; exact h) (Or.inl ⟨by rfl, ?_⟩) hH ?_
  rotate_left
  · intro w' hSw
    obtain ⟨s0, s1, s2, s3, s4, s5, s6, s7, s8, s9, s10, s11, s12, s13, s14, s15, s16⟩ := hSw
    go_simp
    try with_reducible rfl
  try simp only [Act.put, List.setIfInBounds_toArray, List.set_cons_zero, List.set_cons_succ]
  refine wpAnyH_take (i := 52) (v := ?_) (by simp only [List.getElem?_toArray, List.getElem?_cons_succ, List.getElem?_cons_zero]; rfl) (by kernel_rfl) (by kernel_rfl) (by kernel_rfl) (by intro _ _ _ h; exact h) (Or.inl ⟨by rfl, ?_⟩) hH ?_
  rotate_left
  · intro w' hSw
    obtain ⟨s0, s1, s2, s3, s4, s5, s6, s7, s8, s9, s10, s11, s12, s13, s14, s15, s16⟩ := hSw
    go_simp
    try with_reducible rfl
  try simp only [Act.put, List.setIfInBounds_toArray, List.set_cons_zero, List.set_cons_succ]
  refine wpAnyH_ready (rs := [53]) (by kernel_rfl) (by simp) ?_
  refine AllReadyH.cons (o := _) (by simp only [List.getElem?_toArray, List.getElem?_cons_succ, List.getElem?_cons_zero]; rfl) (fun K hK => ?_) AllReadyH.nil
  go_simp
  go_at_call 21
  refine (HF2.out _ hH.1.out).mono ?_
  rintro e w19 ⟨rfl, hb7⟩
  have hX := Below.step hH.1.out hb7 (Nat.le_refl _)
  skip
  clear hH hb7
  refine hK.out _ _ ⟨Lib.hid hX, HNX.out _ hX⟩ (fun hH => ?_)
  clear hK K hX
  try simp only [Act.put, List.setIfInBounds_toArray, List.set_cons_zero, List.set_cons_succ]
  refine wpAnyH_take (i := 54) (v := ?_) (by simp only [List.getElem?_toArray, List.getElem?_cons_succ, List.getElem?_cons_zero]; rfl) (by kernel_rfl) (by kernel_rfl) (by kernel_rfl) (by intro _ _ _ h; exact h) (Or.inl ⟨by rfl, ?_⟩) hH ?_
  rotate_left
  · intro w' hSw
    obtain ⟨s0, s1, s2, s3, s4, s5, s6, s7, s8, s9, s10, s11, s12, s13, s14, s15, s16⟩ := hSw
    go_simp
    try with_reducible rfl
  try simp only [Act.put, List.setIfInBounds_toArray, List.set_cons_zero, List.set_cons_succ]
  refine wpAnyH_take (i := 55) (v := ?_) (by simp only [List.getElem?_toArray, List.getElem?_cons_succ, List.getElem?_cons_zero]; rfl) (by kernel_rfl) (by kernel_rfl) (by kernel_rfl) (by intro _ _ _ h; exact h) (Or.inl ⟨by rfl, ?_⟩) hH ?_
  rotate_left
  · intro w' hSw
    obtain ⟨s0, s1, s2, s3, s4, s5, s6, s7, s8, s9, s10, s11, s12, s13, s14, s15, s16⟩ := hSw
    go_simp
    try with_reducible rfl
  try simp only [Act.put, List.setIfInBounds_toArray, List.set_cons_zero, List.set_cons_succ]
  refine wpAnyH_take (i := 56) (v := ?_) (by simp only [List.getElem?_toArray, List.getElem?_cons_succ, List.getElem?_cons_zero]; rfl) (by kernel_rfl) (by kernel_rfl) (by kernel_rfl) (by intro _ _ _ h; exact h) (Or.inl ⟨by rfl, ?_⟩) hH ?_
  rotate_left
  · intro w' hSw
    obtain ⟨s0, s1, s2, s3, s4, s5, s6, s7, s8, s9, s10, s11, s12, s13, s14, s15, s16⟩ := hSw
    go_simp
    try with_reducible rfl
  try simp only [Act.put, List.setIfInBounds_toArray, List.set_cons_zero]
  refine wpAnyH_done (by kernel_rfl) ?_ _
  have hEE := Lib.hid (Below.step HB0.out hH.1.out (Nat.le_refl _))
  clear hH
  go_wp2_with fail
  go_ret
  exact ⟨rfl, hEE.out⟩
end Go.Proofs.Ytokckghedpdfiaa
