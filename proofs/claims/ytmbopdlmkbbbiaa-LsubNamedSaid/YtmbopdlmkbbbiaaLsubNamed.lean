/- For every two lists of bytes the law LsubNamed returns true: what is not named makes no difference, and what all is put for is named no more. No condition. -/
import Derived.Test.YtmbopdlmkbbbiaaAwake5
import Derived.Test.YtmbopdlmkbbbiaaSname
import Derived.Test.YtmbopdlmkbbbiaaSame5
import Derived.Test.YtmbopdlmkbbbiaaLevels5
import Derived.Test.YtmbopdlmkbbbiaaRow
import Derived.Test.YtmbopdlmkbbbiaaOpen3
import Derived.Carry
namespace Go.Proofs.Ytmbopdlmkbbbiaa.lsubNamed
open Go.ChangeShapes Go.WideShapes Go.ChangeAt Go.RowKit

theorem own : ownKnob Try.prog.godebug = none := by kernel_rfl

theorem subE_two {P Q : Fo} {k n : Int} {f : Fo} (hP : P.len ≤ 5) (hQ : Q.len ≤ 10) (hr : rightB 5 10 k n f = true) (hp : allR P = true) (hq : allR Q = true) : (subE P Q k n f = 0 ∧ subT P Q k n f = sb1 P Q k n (sbF P Q f) ∧ rightT (sb1 P Q k n (sbF P Q f)) = true) ∨ (subE P Q k n f = 2 ∧ subT P Q k n f = .cons 0 0 .nil .nil ∧ ¬ rightT (sb1 P Q k n (sbF P Q f)) = true) := by
  have hok : okS P Q k n f = true := by unfold okS; rw [decide_eq_true hP, decide_eq_true hQ, hr, hp, hq]; rfl
  by_cases h : rightT (sb1 P Q k n (sbF P Q f)) = true
  · left
    have e : subE P Q k n f = 0 := by unfold subE; rw [if_pos hok, if_pos h]
    exact ⟨e, by unfold subT; rw [if_pos e], h⟩
  · right
    have e : subE P Q k n f = 2 := by unfold subE; rw [if_pos hok, if_neg h]
    exact ⟨e, by unfold subT; rw [e]; rfl, h⟩
/-- Where nothing is put in, the level itself is told. -/
theorem sub_same {k n : Int} {f : Fo} (hr : rightB 5 10 k n f = true) : subE .nil .nil k n f = 0 ∧ subT .nil .nil k n f = .cons k n f .nil := by
  have hp := right_parts hr
  have hT := sb1_none (P := .nil) (k := k) hp.1 hp.2.1 (.inl rfl)
  have hR : rightT (sb1 .nil .nil k n (sbF .nil .nil f)) = true := by rw [hT]; exact hr
  rcases subE_two (P := .nil) (Q := .nil) (Nat.zero_le _) (Nat.zero_le _) hr rfl rfl with h | h
  · exact ⟨h.1, h.2.1.trans hT⟩
  · exact absurd hR h.2.2
theorem named_len {k n : Int} {f P : Fo} (hr : rightB 5 10 k n f = true) (h : ¬ rightT (sb1 P .nil k n (sbF P .nil f)) = true) : 0 < (nm1 5 k n f []).length := by
  rcases Nat.eq_zero_or_pos (nm1 5 k n f []).length with h0 | h0
  · exfalso
    have h1 := List.length_eq_zero_iff.1 h0
    rw [nm1_once] at h1
    have hp := right_parts hr
    rw [sb1_none hp.1 hp.2.1 (.inr (onceL_nil h1))] at h
    exact h hr
  · exact h0
/-- What is told of the result's names. -/
theorem named_facts {k n k2 n2 kx nx : Int} {f F2 X : Fo} (hr : rightB 5 10 k n f = true) (h5 : numF 5 (.cons kx nx X .nil) = []) (h6 : numF 6 (.cons kx nx X .nil) = []) (hT : sb1 (fives kx nx X 5) .nil k n (sbF (fives kx nx X 5) .nil f) = .cons k2 n2 F2 .nil) :
    nm1 5 k2 n2 F2 [] = [] ∧ nm1 6 k2 n2 F2 [] = nm1 6 k n f [] ∧ (nm1 5 k n f [] = [] → k2 = k ∧ n2 = n ∧ F2 = f) := by
  have h0 : rAll 5 10 (.cons k n f .nil) 12 = true := by
    simp only [rAll, Bool.and_true]
    exact right_12 hr
  have h1 := num_fives h5 h6 _ _ h0
  have e : sbF (fives kx nx X 5) .nil (.cons k n f .nil) = .cons k2 n2 F2 .nil := by
    show (sb1 (fives kx nx X 5) .nil k n (sbF (fives kx nx X 5) .nil f)).app .nil = _
    rw [hT]; rfl
  rw [e, num_one, num_one, num_one] at h1
  refine ⟨by rw [nm1_once, h1.1]; rfl, by rw [nm1_once, nm1_once, h1.2], fun h2 => ?_⟩
  rw [nm1_once] at h2
  have hp := right_parts hr
  have h3 := sb1_none (P := fives kx nx X 5) hp.1 hp.2.1 (.inr (onceL_nil h2))
  rw [hT] at h3
  injection h3 with a1 a2 a3
  exact ⟨a1, a2, a3⟩
theorem make5L (w : World) : (Instr.makeSlice 28 (.int .i64 5) (.int .i64 5)).run Try.prog w = .ok (.slice (some ⟨w.heap.size, 0, none⟩) 5 5) (w.alloc (.cells #[.int .i64 0, .int .i64 0, .slice none 0 0, .int .i64 0, .int .i64 0, .slice none 0 0, .int .i64 0, .int .i64 0, .slice none 0 0, .int .i64 0, .int .i64 0, .slice none 0 0, .int .i64 0, .int .i64 0, .slice none 0 0] 30)) := by
  obtain ⟨i0, hi, hz0, hz1, hz2⟩ := info_parts infoLevel
  have hr := run_make (P := Try.prog) w 28 30 i0 _ Try.underlying28 hi hz0 .i64 .i64 5 5 (by omega) (by omega) (by rw [hz2]; decide) (by omega)
  simp only [show (5 : Int).toNat = 5 from rfl] at hr
  rw [hz1] at hr
  have hm : madeCells (Value.agg #[.int .i64 0, .int .i64 0, .slice none 0 0]).cells (5 * 3) = #[.int .i64 0, .int .i64 0, .slice none 0 0, .int .i64 0, .int .i64 0, .slice none 0 0, .int .i64 0, .int .i64 0, .slice none 0 0, .int .i64 0, .int .i64 0, .slice none 0 0, .int .i64 0, .int .i64 0, .slice none 0 0] := by
    kernel_rfl
  rw [hm] at hr
  exact hr
/-- The block A is a row of five levels; the first ones are those of the forest G, whose Kids lie below A. -/
def RowQ (w : World) (A : Nat) (G : Fo) : Prop := ∃ cur : Array Value, w.heap[A]? = some (.cells cur 30 (0, 0)) ∧ cur.size = 15 ∧ FoIn w (· < A) G A 0
theorem RowQ.at {w : World} {A : Nat} {G : Fo} (h : RowQ w A G) {j : Nat} (hj : j < 5) : (∃ u0, w.cell? ⟨A, j * 3, none⟩ = some u0) ∧ (∃ u1, w.cell? ⟨A, j * 3 + 1, none⟩ = some u1) ∧ (∃ u2, w.cell? ⟨A, j * 3 + 2, none⟩ = some u2) ∧ (∀ o, w.frozen? ⟨A, o, none⟩ = false) ∧ A < w.heap.size := by
  obtain ⟨cur, h1, h2, _⟩ := h
  refine ⟨⟨cur[j * 3]'(by omega), ?_⟩, ⟨cur[j * 3 + 1]'(by omega), ?_⟩, ⟨cur[j * 3 + 2]'(by omega), ?_⟩, free_of h1, lt_of_block h1⟩
  all_goals rw [cell_at h1]; exact Array.getElem?_eq_getElem _
theorem RowQ.store {w : World} {A : Nat} {G : Fo} (h : RowQ w A G) {j : Nat} (hG : G.len = j) (hj : j < 5) (k n : Int) {F : Fo} {x : Option Addr} {cc : Nat} (hs : SlIn w (· < A) F x cc) :
    RowQ (((w.setCell ⟨A, j * 3, none⟩ (.int .i64 k)).setCell ⟨A, j * 3 + 1, none⟩ (.int .i64 n)).setCell ⟨A, j * 3 + 2, none⟩ (.slice x F.len cc)) A (G.app (.cons k n F .nil)) := by
  subst hG
  obtain ⟨cur, h1, h2, h3⟩ := h
  have e1 := heap_setCell_same w A (G.len * 3) cur 30 (.int .i64 k) h1
  have e2 := heap_setCell_same _ A (G.len * 3 + 1) _ 30 (.int .i64 n) e1
  have e3 := heap_setCell_same _ A (G.len * 3 + 2) _ 30 (.slice x F.len cc) e2
  have hk : ∀ b, b ≠ A → (((w.setCell ⟨A, G.len * 3, none⟩ (.int .i64 k)).setCell ⟨A, G.len * 3 + 1, none⟩ (.int .i64 n)).setCell ⟨A, G.len * 3 + 2, none⟩ (.slice x F.len cc)).heap[b]? = w.heap[b]? := fun b hb => by
    rw [Below.heap_setCell _ _ _ _ hb, Below.heap_setCell _ _ _ _ hb, Below.heap_setCell _ _ _ _ hb]
  generalize (((w.setCell ⟨A, G.len * 3, none⟩ (.int .i64 k)).setCell ⟨A, G.len * 3 + 1, none⟩ (.int .i64 n)).setCell ⟨A, G.len * 3 + 2, none⟩ (.slice x F.len cc)) = W at e3 hk ⊢
  refine ⟨_, e3, by simpa using h2, ?_⟩
  have hP : ∀ b, b < A → W.heap[b]? = w.heap[b]? := fun b hb => hk b (by omega)
  refine FoIn.snoc G A 0 (FoIn.cells hP G A 0 (fun i hi => ?_) h3) ?_ ?_ ?_ (hs.keep hP)
  · rw [cell_at e3, cell_at h1, Nat.zero_add]
    rw [Array.getElem?_setIfInBounds_ne (by omega), Array.getElem?_setIfInBounds_ne (by omega), Array.getElem?_setIfInBounds_ne (by omega)]
  · rw [cell_at e3, Nat.zero_add, Array.getElem?_setIfInBounds_ne (by omega), Array.getElem?_setIfInBounds_ne (by omega), Array.getElem?_setIfInBounds_self_of_lt (by omega)]
  · rw [cell_at e3, Nat.zero_add, Array.getElem?_setIfInBounds_ne (by omega), Array.getElem?_setIfInBounds_self_of_lt (by simp; omega)]
  · rw [cell_at e3, Nat.zero_add, Array.getElem?_setIfInBounds_self_of_lt (by simp; omega)]
theorem RowQ.start (w : World) : RowQ (w.alloc (.cells #[.int .i64 0, .int .i64 0, .slice none 0 0, .int .i64 0, .int .i64 0, .slice none 0 0, .int .i64 0, .int .i64 0, .slice none 0 0, .int .i64 0, .int .i64 0, .slice none 0 0, .int .i64 0, .int .i64 0, .slice none 0 0] 30)) w.heap.size .nil := ⟨_, heap_new _ _, rfl, trivial⟩
theorem RowQ.full {w : World} {A : Nat} {G : Fo} (h : RowQ w A G) (hG : G.len = 5) : SlIn w (· < w.heap.size) G (some ⟨A, 0, none⟩) 5 := by
  obtain ⟨cur, h1, _, h3⟩ := h
  exact SlIn.mk (by omega) (by omega) (lt_of_block h1) (FoIn.weak (fun b hb => by have := lt_of_block h1; omega) _ _ _ h3)

set_option maxRecDepth 100000 in
set_option maxHeartbeats 8000000 in
theorem walk (l1 c1 l2 c2 : Nat) (a1 a2 : Option Addr) (w : World) (h1 : U8In w (· < w.heap.size) l1 a1 c1) (h2 : U8In w (· < w.heap.size) l2 a2 c2) :
    Calls Try.prog 7 #[.slice a1 l1 c1, .slice a2 l2 c2] w fun e w' => e = .returned (.bool true) ∧ Below w.heap.size w w' := by
  have HM : Hid (∀ W, Below w.heap.size w W → Calls Try.prog 9 #[.slice a1 l1 c1, .int .i64 5, .int .i64 10] W (MadeOk 5 10 W)) := Lib.hid (fun W h => made_any 5 10 (by omega) (by omega) (by omega) (by omega) l1 c1 w.heap.size a1 W (h1.keep (fun b hb => h.block b hb)) h.size)
  have HX : Hid (∀ W, Below w.heap.size w W → Calls Try.prog 9 #[.slice a2 l2 c2, .int .i64 0, .int .i64 0] W (MadeOk 0 0 W)) := Lib.hid (fun W h => made0_any l2 c2 w.heap.size a2 W (h2.keep (fun b hb => h.block b hb)) h.size)
  clear h1 h2
  have hmk := make5L
  go_enter Try.func7, Try.ntmps7
  go_wp2_with fail
  refine (awake5_any _).mono ?_
  rintro e w1 ⟨rfl, b1, _⟩
  go_wp2_with fail
  refine (HM.out _ b1).mono ?_
  rintro e w2 ⟨k, n, F, x, c, rfl, hok, s2, b2⟩
  have HB2 := Lib.hid (Below.step b1 b2 (Nat.le_refl _))
  have HR := Lib.hid (lv_right (by omega) hok)
  have S2 := Lib.hid (s2.weak (Q := (· < w2.heap.size)) (fun b h => h.2))
  clear hok s2 b2 b1
  go_wp2_with fail
  refine (HX.out _ (by exact HB2.out.alloc HB2.out.size _)).mono ?_
  rintro e w3 ⟨kx, nx, X, xx, cx, rfl, hokx, s3, b3⟩
  have HXF := Lib.hid (made0_facts hokx)
  have B23 : Hid (Below w2.heap.size w2 w3) := Lib.hid (((Below.refl _ _).alloc (Nat.le_refl _) _).trans (b3.mono (by simp)))
  have HU2 := Lib.hid ((b3.block w2.heap.size (by simp)).trans (heap_new w2 (.cells #[.int .i64 k, .int .i64 n, .slice x F.len c] 30)))
  have S3 := Lib.hid (s3.weak (Q := (· < w3.heap.size)) (fun b h => h.2))
  have HU3 := Lib.hid (heap_new w3 (.cells #[.int .i64 kx, .int .i64 nx, .slice xx X.len cx] 30))
  have u2 := (heap_old w3 (.cells #[.int .i64 kx, .int .i64 nx, .slice xx X.len cx] 30) (lt_of_block HU2.out)).trans HU2.out
  have HB3 : Hid (Below w.heap.size w (w3.alloc (.cells #[.int .i64 kx, .int .i64 nx, .slice xx X.len cx] 30))) := Lib.hid ((Below.step HB2.out B23.out (Nat.le_refl _)).alloc (Nat.le_trans HB2.out.size B23.out.size) _)
  have HP := Lib.hid (sParams_any k n F x c w2.heap.size (w3.alloc (.cells #[.int .i64 kx, .int .i64 nx, .slice xx X.len cx] 30)) HR.out (S2.out.below (B23.out.alloc B23.out.size _)) (Nat.le_trans B23.out.size (by simp)))
  have q0 := cell_at u2 0
  have q1 := cell_at u2 1
  have q2 := cell_at u2 2
  clear hokx s3 b3 u2
  go_wp2_with fail
  refine HP.out.mono ?_
  rintro e w4 ⟨xn, cn, rfl, _, b4⟩
  have B34 : Hid (Below w3.heap.size w3 w4) := Lib.hid (((Below.refl _ _).alloc (Nat.le_refl _) _).trans (b4.mono (by simp)))
  have HB4 := Lib.hid (Below.step HB3.out b4 (Nat.le_refl _))
  have HU24 := Lib.hid ((B34.out.block _ (lt_of_block HU2.out)).trans HU2.out)
  have HU34 := Lib.hid ((b4.block _ (lt_of_block HU3.out)).trans HU3.out)
  have B24 := Lib.hid (Below.step B23.out B34.out (Nat.le_refl _))
  have S24 : Hid (SlIn w4 (· < w4.heap.size) F x c) := Lib.hid ((S2.out.below B24.out).mono B24.out.size)
  have S34 : Hid (SlIn w4 (· < w4.heap.size) X xx cx) := Lib.hid ((S3.out.below B34.out).mono B34.out.size)
  have HRQ := Lib.hid (RowQ.start w4)
  clear q0 q1 q2 b4 HP
  go_wp2_with fail
  go_loopw [10] (fun iv wr => ∃ j : Nat, iv = .int .i64 j ∧ j ≤ 5 ∧ Hid (RowQ wr w4.heap.size (fives kx nx X j) ∧ Below w4.heap.size w4 wr)) (fun iv _ => 5 - (intOf iv).toNat)
  case atStart => exact ⟨0, rfl, by omega, Lib.hid ⟨HRQ.out, (Below.refl _ _).alloc (Nat.le_refl _) _⟩⟩
  case round =>
    obtain ⟨j, rfl, hj, hR⟩ := hrel
    have hj0 : (0 : Int) ≤ (j : Int) := by omega
    have u3 := (hR.out.2.block _ (lt_of_block HU34.out)).trans HU34.out
    by_cases hjl : j < 5
    · have hjl' : (j : Int) < 5 := by omega
      have q0 := cell_at u3 0
      have q1 := cell_at u3 1
      have q2 := cell_at u3 2
      obtain ⟨⟨v0, y0⟩, ⟨v1, y1⟩, ⟨v2, y2⟩, yz, yl⟩ := hR.out.1.at hjl
      have hst := hR.out.1.store (fives_len kx nx X j) hjl kx nx (S34.out.below hR.out.2)
      rw [fives_snoc] at hst
      have HN := Lib.hid (And.intro hst (((hR.out.2.setCell (show w4.heap.size ≤ (⟨w4.heap.size, j * 3, none⟩ : Addr).block from Nat.le_refl _) (.int .i64 kx)).setCell (show w4.heap.size ≤ (⟨w4.heap.size, j * 3 + 1, none⟩ : Addr).block from Nat.le_refl _) (.int .i64 nx)).setCell (show w4.heap.size ≤ (⟨w4.heap.size, j * 3 + 2, none⟩ : Addr).block from Nat.le_refl _) (.slice xx X.len cx)))
      clear hst u3
      go_wp2_with fail
      go_roundw
      case rel => exact ⟨j + 1, by go_num, by omega, HN⟩
      case measure => simp [intOf]; omega
    · have hjl' : ¬ (j : Int) < 5 := by omega
      obtain rfl : j = 5 := by omega
      have HQ := Lib.hid hR.out.1
      have HW := Lib.hid hR.out.2
      have hAl : w4.heap.size < wr.heap.size := by obtain ⟨cur, h1, _⟩ := hR.out.1; exact lt_of_block h1
      have ua := (HW.out.block _ (lt_of_block HU24.out)).trans HU24.out
      have HUA := Lib.hid ua
      have q0 := cell_at ua 0
      have q1 := cell_at ua 1
      have q2 := cell_at ua 2
      have SA : Hid (SlIn wr (· < wr.heap.size) F x c) := Lib.hid ((S24.out.below HW.out).mono HW.out.size)
      have HBR : Hid (Below w.heap.size w wr) := Lib.hid (Below.step HB4.out HW.out (Nat.le_refl _))
      have hC1 := sSub_any (fives kx nx X 5) .nil k n F x (some ⟨w4.heap.size, 0, none⟩) none c 5 0 wr.heap.size wr SA.out (HQ.out.full (fives_len kx nx X 5)) (SlIn.none _ _) (Nat.le_refl _)
      rw [fives_len] at hC1
      have HC1 := Lib.hid hC1
      have hE := subE_two (P := fives kx nx X 5) (Q := .nil) (by rw [fives_len]; exact Nat.le_refl _) (Nat.zero_le _) HR.out (fives_right HXF.out.1 5) rfl
      have HNL := Lib.hid (fun h => named_len (P := fives kx nx X 5) HR.out h)
      have HNF := Lib.hid (fun (k2 n2 : Int) (F2 : Fo) h => named_facts (k2 := k2) (n2 := n2) (F2 := F2) HR.out HXF.out.2.1 HXF.out.2.2 h)
      generalize subE (fives kx nx X 5) .nil k n F = E0 at HC1 hE
      generalize subT (fives kx nx X 5) .nil k n F = T0 at HC1 hE
      obtain ⟨zs, hzs⟩ : ∃ zs, nm1 5 k n F [] = zs := ⟨_, rfl⟩
      rw [hzs] at HNL HNF
      rw [hzs]
      have HZS := Lib.hid hzs
      clear hR u3 hmk hzs hC1 ua HQ HRQ HM HX
      go_wp2_with fail
      refine HC1.out.mono ?_
      rintro e w6 ⟨k2, n2, F2, x2, c2, hT, rfl, s6, b6⟩
      have B6 := Lib.hid b6
      have S6 := Lib.hid s6
      have HT := Lib.hid hT
      have ho6 : Below w6.heap.size w6 (w6.alloc (.cells #[.int .i64 k2, .int .i64 n2, .slice x2 F2.len c2] 30)) := (Below.refl _ _).alloc (Nat.le_refl _) _
      have ua6 := (ho6.block _ (by have := lt_of_block HUA.out; have := b6.size; omega)).trans ((b6.block _ (lt_of_block HUA.out)).trans HUA.out)
      have HUA6 := Lib.hid ua6
      have r0 := cell_at ua6 0
      have r1 := cell_at ua6 1
      have r2 := cell_at ua6 2
      have b16 : Below wr.heap.size wr (w6.alloc (.cells #[.int .i64 k2, .int .i64 n2, .slice x2 F2.len c2] 30)) := Below.step b6 ho6 (Nat.le_refl _)
      have hC2 := sSub_any .nil .nil k n F x none none c 0 0 (w6.alloc (.cells #[.int .i64 k2, .int .i64 n2, .slice x2 F2.len c2] 30)).heap.size (w6.alloc (.cells #[.int .i64 k2, .int .i64 n2, .slice x2 F2.len c2] 30)) ((SA.out.below b16).mono b16.size) (SlIn.none _ _) (SlIn.none _ _) (Nat.le_refl _)
      rw [(sub_same HR.out).1, (sub_same HR.out).2] at hC2
      have HC2 := Lib.hid hC2
      have HU6 := Lib.hid (heap_new w6 (.cells #[.int .i64 k2, .int .i64 n2, .slice x2 F2.len c2] 30))
      have B16 := Lib.hid b16
      have S66 : Hid (SlIn (w6.alloc (.cells #[.int .i64 k2, .int .i64 n2, .slice x2 F2.len c2] 30)) (· < w6.heap.size) F2 x2 c2) := Lib.hid (s6.below ho6)
      have HZ6 : Hid (w6.heap.size < (w6.alloc (.cells #[.int .i64 k2, .int .i64 n2, .slice x2 F2.len c2] 30)).heap.size) := Lib.hid (by simp)
      clear b6 s6 hT ho6 ua6 b16 hC2 q0 q1 q2 HC1
      go_wp2_with fail
      generalize w6.alloc (.cells #[.int .i64 k2, .int .i64 n2, .slice x2 F2.len c2] 30) = W6 at HC2 HU6 B16 S66 HZ6 HUA6 r0 r1 r2 ⊢
      refine HC2.out.mono ?_
      rintro e w7 ⟨k3, n3, F3, x3, c3, hT3, rfl, s7, b7⟩
      obtain ⟨rfl, rfl, rfl⟩ := one_eq hT3
      have ho7 : Below w7.heap.size w7 (w7.alloc (.cells #[.int .i64 k, .int .i64 n, .slice x3 F.len c3] 30)) := (Below.refl _ _).alloc (Nat.le_refl _) _
      have b67 : Below W6.heap.size W6 (w7.alloc (.cells #[.int .i64 k, .int .i64 n, .slice x3 F.len c3] 30)) := Below.step b7 ho7 (Nat.le_refl _)
      have ua7 := (b67.block _ (lt_of_block HUA6.out)).trans HUA6.out
      have ub7 := (b67.block _ (lt_of_block HU6.out)).trans HU6.out
      have HUA7 := Lib.hid ua7
      have HUB7 := Lib.hid ub7
      have HB7 : Hid (Below w.heap.size w (w7.alloc (.cells #[.int .i64 k, .int .i64 n, .slice x3 F.len c3] 30))) := Lib.hid (Below.step (Below.step HBR.out B16.out (Nat.le_refl _)) b67 (Nat.le_refl _))
      have SA7 : Hid (SlIn (w7.alloc (.cells #[.int .i64 k, .int .i64 n, .slice x3 F.len c3] 30)) (· < W6.heap.size) F x c) := Lib.hid (((SA.out.below B16.out).mono B16.out.size).below b67)
      have SB7 : Hid (SlIn (w7.alloc (.cells #[.int .i64 k, .int .i64 n, .slice x3 F.len c3] 30)) (· < W6.heap.size) F2 x2 c2) := Lib.hid ((S66.out.mono (Nat.le_of_lt HZ6.out)).below b67)
      have SC7 : Hid (SlIn (w7.alloc (.cells #[.int .i64 k, .int .i64 n, .slice x3 F.len c3] 30)) (· < w7.heap.size) F x3 c3) := Lib.hid (s7.below ho7)
      have HZ7 : Hid (W6.heap.size ≤ (w7.alloc (.cells #[.int .i64 k, .int .i64 n, .slice x3 F.len c3] 30)).heap.size ∧ w7.heap.size < (w7.alloc (.cells #[.int .i64 k, .int .i64 n, .slice x3 F.len c3] 30)).heap.size) := Lib.hid ⟨b67.size, by simp⟩
      have HS := Lib.hid (rSame_same F k n x x3 c c3 (w7.alloc (.cells #[.int .i64 k, .int .i64 n, .slice x3 F.len c3] 30)).heap.size (w7.alloc (.cells #[.int .i64 k, .int .i64 n, .slice x3 F.len c3] 30)) (SA7.out.mono HZ7.out.1) (SC7.out.mono (Nat.le_of_lt HZ7.out.2)) (Nat.le_refl _))
      have q0 := cell_at ua7 0
      have q1 := cell_at ua7 1
      have q2 := cell_at ua7 2
      clear hT3 s7 b7 ho7 b67 ua7 ub7 r0 r1 r2 HC2
      go_wp2_with fail
      refine HS.out.mono ?_
      rintro e w8 ⟨rfl, b8⟩
      have HB8 := Lib.hid (Below.step HB7.out b8 (Nat.le_refl _))
      have ua8 := (b8.block _ (lt_of_block HUA7.out)).trans HUA7.out
      have ub8 := (b8.block _ (lt_of_block HUB7.out)).trans HUB7.out
      have SA8 : Hid (SlIn w8 (· < w8.heap.size) F x c) := Lib.hid (((SA7.out.mono HZ7.out.1).below b8).mono b8.size)
      have SB8 : Hid (SlIn w8 (· < w8.heap.size) F2 x2 c2) := Lib.hid (((SB7.out.mono HZ7.out.1).below b8).mono b8.size)
      have HUA8 := Lib.hid ua8
      have HUB8 := Lib.hid ub8
      clear b8 ua8 ub8 q0 q1 q2 HS
      rcases hE with ⟨rfl, hT0, hR0⟩ | ⟨rfl, hT0, hR0⟩
      · have HTT := Lib.hid (hT0.symm.trans HT.out)
        have hr2 : rightB 5 10 k2 n2 F2 = true := by
          have h1 := hR0
          rw [HTT.out] at h1
          exact h1
        have HR2 := Lib.hid hr2
        have HNM := Lib.hid (HNF.out k2 n2 F2 HTT.out)
        have HSS : Hid (∀ W, Below w8.heap.size w8 W → Hid (Below w8.heap.size w8 W) ∧ W.cell? ⟨w6.heap.size, 0, none⟩ = some (.int .i64 k2) ∧ W.cell? ⟨w6.heap.size, 1, none⟩ = some (.int .i64 n2) ∧ W.cell? ⟨w6.heap.size, 2, none⟩ = some (.slice x2 F2.len c2) ∧ W.cell? ⟨w2.heap.size, 0, none⟩ = some (.int .i64 k) ∧ W.cell? ⟨w2.heap.size, 1, none⟩ = some (.int .i64 n) ∧ W.cell? ⟨w2.heap.size, 2, none⟩ = some (.slice x F.len c)) := Lib.hid (fun W h => by
          have y1 := (h.block _ (lt_of_block HUB8.out)).trans HUB8.out
          have y2 := (h.block _ (lt_of_block HUA8.out)).trans HUA8.out
          exact ⟨Lib.hid h, cell_at y1 0, cell_at y1 1, cell_at y1 2, cell_at y2 0, cell_at y2 1, cell_at y2 2⟩)
        have CPB : Hid (∀ W, Below w8.heap.size w8 W → Calls Try.prog 22 #[.agg #[.int .i64 k2, .int .i64 n2, .slice x2 F2.len c2]] W fun e w' => ∃ y d, e = .returned (.slice y 0 d) ∧ Below W.heap.size W w') := Lib.hid (fun W h => by
          have h1 := sParams_any k2 n2 F2 x2 c2 w8.heap.size W HR2.out (SB8.out.below h) h.size
          rw [HNM.out.1] at h1
          refine h1.mono ?_
          rintro e w' ⟨y, d, rfl, _, hb⟩
          exact ⟨y, d, rfl, hb⟩)
        obtain ⟨zm, hzm⟩ : ∃ zm, nm1 6 k n F [] = zm := ⟨_, rfl⟩
        have CMB : Hid (∀ W, Below w8.heap.size w8 W → Calls Try.prog 24 #[.agg #[.int .i64 k2, .int .i64 n2, .slice x2 F2.len c2]] W fun e w' => ∃ y d, e = .returned (.slice y zm.length d) ∧ Hid (RowL zm y d w') ∧ Below W.heap.size W w') := Lib.hid (fun W h => by
          have h1 := sMetas_any k2 n2 F2 x2 c2 w8.heap.size W HR2.out (SB8.out.below h) h.size
          rw [HNM.out.2.1, hzm] at h1
          refine h1.mono ?_
          rintro e w' ⟨y, d, rfl, ho, hb⟩
          exact ⟨y, d, rfl, Lib.hid (RowL.of ho), hb⟩)
        have CMA : Hid (∀ W, Below w8.heap.size w8 W → Calls Try.prog 24 #[.agg #[.int .i64 k, .int .i64 n, .slice x F.len c]] W fun e w' => ∃ y d, e = .returned (.slice y zm.length d) ∧ Hid (RowL zm y d w') ∧ Below W.heap.size W w') := Lib.hid (fun W h => by
          have h1 := sMetas_any k n F x c w8.heap.size W HR.out (SA8.out.below h) h.size
          rw [hzm] at h1
          refine h1.mono ?_
          rintro e w' ⟨y, d, rfl, ho, hb⟩
          exact ⟨y, d, rfl, Lib.hid (RowL.of ho), hb⟩)
        have CSM : Hid (zs = [] → ∀ W, Below w8.heap.size w8 W → Calls Try.prog 15 #[.agg #[.int .i64 k, .int .i64 n, .slice x F.len c], .agg #[.int .i64 k2, .int .i64 n2, .slice x2 F2.len c2]] W fun e w' => e = .returned (.bool true) ∧ Below W.heap.size W w') := Lib.hid (fun hz W h => by
          obtain ⟨rfl, rfl, rfl⟩ := HNM.out.2.2 hz
          exact rSame_same F2 k2 n2 x x2 c c2 w8.heap.size W (SA8.out.below h) (SB8.out.below h) h.size)
        clear hT0 hR0 hr2 hzm HNL HNF
        go_wp2_with fail
        refine wp_region_held_drew (S := fun w' => Hid (Below w8.heap.size w8 w') ∧ w'.cell? ⟨w6.heap.size, 0, none⟩ = some (.int .i64 k2) ∧ w'.cell? ⟨w6.heap.size, 1, none⟩ = some (.int .i64 n2) ∧ w'.cell? ⟨w6.heap.size, 2, none⟩ = some (.slice x2 F2.len c2) ∧ w'.cell? ⟨w2.heap.size, 0, none⟩ = some (.int .i64 k) ∧ w'.cell? ⟨w2.heap.size, 1, none⟩ = some (.int .i64 n) ∧ w'.cell? ⟨w2.heap.size, 2, none⟩ = some (.slice x F.len c)) (by kernel_rfl) (HSS.out _ (Below.refl _ _).drew) (fun hH => ?_)
        rcases Nat.eq_zero_or_pos zs.length with hz | hz
        · have hz' := List.length_eq_zero_iff.1 hz
          have hCS := CSM.out hz'
          have CSM := Lib.hid hCS
          have hL0 : ¬ (0 : Int) < (zs.length : Int) := by omega
          have dL0 : decide ((0 : Int) < (zs.length : Int)) = false := decide_eq_false hL0
          generalize zs.length = L at hL0 dL0 ⊢
          clear hz hz' hCS
          refine wpAnyH_take (i := 0) (v := ?_) (by simp only [List.getElem?_toArray, List.getElem?_cons_zero]; rfl) (by kernel_rfl) (by kernel_rfl) (by kernel_rfl) (by intro _ _ _ h; exact h) (Or.inl ⟨by rfl, ?_⟩) hH ?_
          rotate_left
          · intro w' hSw
            obtain ⟨_, y0, y1, y2, y3, y4, y5⟩ := hSw
            go_simp
            try with_reducible rfl
          try simp only [Act.put, List.setIfInBounds_toArray, List.set_cons_zero, List.set_cons_succ]
          refine wpAnyH_take (i := 1) (v := ?_) (by simp only [List.getElem?_toArray, List.getElem?_cons_succ, List.getElem?_cons_zero]; rfl) (by kernel_rfl) (by kernel_rfl) (by kernel_rfl) (by intro _ _ _ h; exact h) (Or.inl ⟨by rfl, ?_⟩) hH ?_
          rotate_left
          · intro w' hSw
            obtain ⟨_, y0, y1, y2, y3, y4, y5⟩ := hSw
            go_simp
            try with_reducible rfl
          try simp only [Act.put, List.setIfInBounds_toArray, List.set_cons_zero, List.set_cons_succ]
          refine wpAnyH_take (i := 2) (v := ?_) (by simp only [List.getElem?_toArray, List.getElem?_cons_succ, List.getElem?_cons_zero]; rfl) (by kernel_rfl) (by kernel_rfl) (by kernel_rfl) (by intro _ _ _ h; exact h) (Or.inl ⟨by rfl, ?_⟩) hH ?_
          rotate_left
          · intro w' hSw
            obtain ⟨_, y0, y1, y2, y3, y4, y5⟩ := hSw
            go_simp
            try with_reducible rfl
          try simp only [Act.put, List.setIfInBounds_toArray, List.set_cons_zero, List.set_cons_succ]
          refine wpAnyH_ready (rs := [3]) (by kernel_rfl) (by simp) ?_
          refine AllReadyH.cons (o := _) (by simp only [List.getElem?_toArray, List.getElem?_cons_succ, List.getElem?_cons_zero]; rfl) (fun K hK => ?_) AllReadyH.nil
          go_simp
          go_at_call 22
          refine (CPB.out _ hH.1.out).mono ?_
          rintro e wN3 ⟨d1, e1, rfl, b3⟩
          have hN3 : Hid (Below w8.heap.size w8 wN3) := Lib.hid (Below.step hH.1.out b3 (Nat.le_refl _))
          refine hK.out _ _ (HSS.out _ hN3.out) (fun hH3 => ?_)
          clear hH hK K
          have hH := hH3
          try simp only [Act.put, List.setIfInBounds_toArray, List.set_cons_zero, List.set_cons_succ]
          refine wpAnyH_take (i := 4) (v := ?_) (by simp only [List.getElem?_toArray, List.getElem?_cons_succ, List.getElem?_cons_zero]; rfl) (by kernel_rfl) (by kernel_rfl) (by kernel_rfl) (by intro _ _ _ h; exact h) (Or.inl ⟨by rfl, ?_⟩) hH ?_
          rotate_left
          · intro w' hSw
            obtain ⟨_, y0, y1, y2, y3, y4, y5⟩ := hSw
            go_simp
            try with_reducible rfl
          try simp only [Act.put, List.setIfInBounds_toArray, List.set_cons_zero, List.set_cons_succ]
          refine wpAnyH_take (i := 5) (v := ?_) (by simp only [List.getElem?_toArray, List.getElem?_cons_succ, List.getElem?_cons_zero]; rfl) (by kernel_rfl) (by kernel_rfl) (by kernel_rfl) (by intro _ _ _ h; exact h) (Or.inl ⟨by rfl, ?_⟩) hH ?_
          rotate_left
          · intro w' hSw
            obtain ⟨_, y0, y1, y2, y3, y4, y5⟩ := hSw
            go_simp
            try with_reducible rfl
          try simp only [Act.put, List.setIfInBounds_toArray, List.set_cons_zero, List.set_cons_succ]
          refine wpAnyH_take (i := 6) (v := ?_) (by simp only [List.getElem?_toArray, List.getElem?_cons_succ, List.getElem?_cons_zero]; rfl) (by kernel_rfl) (by kernel_rfl) (by kernel_rfl) (by intro _ _ _ h; exact h) (Or.inl ⟨by rfl, ?_⟩) hH ?_
          rotate_left
          · intro w' hSw
            obtain ⟨_, y0, y1, y2, y3, y4, y5⟩ := hSw
            go_simp
            try with_reducible rfl
          try simp only [Act.put, List.setIfInBounds_toArray, List.set_cons_zero, List.set_cons_succ]
          refine wpAnyH_take (i := 7) (v := ?_) (by simp only [List.getElem?_toArray, List.getElem?_cons_succ, List.getElem?_cons_zero]; rfl) (by kernel_rfl) (by kernel_rfl) (by kernel_rfl) (by intro _ _ _ h; exact h) (Or.inl ⟨by rfl, ?_⟩) hH ?_
          rotate_left
          · intro w' hSw
            obtain ⟨_, y0, y1, y2, y3, y4, y5⟩ := hSw
            go_simp
            try with_reducible rfl
          try simp only [Act.put, List.setIfInBounds_toArray, List.set_cons_zero, List.set_cons_succ]
          refine wpAnyH_take (i := 8) (v := ?_) (by simp only [List.getElem?_toArray, List.getElem?_cons_succ, List.getElem?_cons_zero]; rfl) (by kernel_rfl) (by kernel_rfl) (by kernel_rfl) (by intro _ _ _ h; exact h) (Or.inl ⟨by rfl, ?_⟩) hH ?_
          rotate_left
          · intro w' hSw
            obtain ⟨_, y0, y1, y2, y3, y4, y5⟩ := hSw
            go_simp
            try with_reducible rfl
          try simp only [Act.put, List.setIfInBounds_toArray, List.set_cons_zero, List.set_cons_succ]
          refine wpAnyH_take (i := 10) (v := ?_) (by simp only [List.getElem?_toArray, List.getElem?_cons_succ, List.getElem?_cons_zero]; rfl) (by kernel_rfl) (by kernel_rfl) (by kernel_rfl) (by intro _ _ _ h; exact h) (Or.inl ⟨by rfl, ?_⟩) hH ?_
          rotate_left
          · intro w' hSw
            obtain ⟨_, y0, y1, y2, y3, y4, y5⟩ := hSw
            go_simp
            try with_reducible rfl
          try simp only [Act.put, List.setIfInBounds_toArray, List.set_cons_zero, List.set_cons_succ]
          refine wpAnyH_ready (rs := [9]) (by kernel_rfl) (by simp) ?_
          refine AllReadyH.cons (o := _) (by simp only [List.getElem?_toArray, List.getElem?_cons_succ, List.getElem?_cons_zero]; rfl) (fun K hK => ?_) AllReadyH.nil
          go_simp
          go_at_call 24
          refine (CMB.out _ hH.1.out).mono ?_
          rintro e wN9 ⟨d2, e2, rfl, R2, b9⟩
          have hN9 : Hid (Below w8.heap.size w8 wN9) := Lib.hid (Below.step hH.1.out b9 (Nat.le_refl _))
          refine hK.out _ _ (HSS.out _ hN9.out) (fun hH9 => ?_)
          clear hH hK K
          have hH := hH9
          try simp only [Act.put, List.setIfInBounds_toArray, List.set_cons_zero, List.set_cons_succ]
          refine wpAnyH_ready (rs := [11]) (by kernel_rfl) (by simp) ?_
          refine AllReadyH.cons (o := _) (by simp only [List.getElem?_toArray, List.getElem?_cons_succ, List.getElem?_cons_zero]; rfl) (fun K hK => ?_) AllReadyH.nil
          go_simp
          go_at_call 24
          refine (CMA.out _ hH.1.out).mono ?_
          rintro e wN11 ⟨d3, e3, rfl, R3, b11⟩
          have hN11 : Hid (Below w8.heap.size w8 wN11) := Lib.hid (Below.step hH.1.out b11 (Nat.le_refl _))
          have B9 := Lib.hid b11
          refine hK.out _ _ (HSS.out _ hN11.out) (fun hH11 => ?_)
          clear hH hK K
          have hH := hH11
          try simp only [Act.put, List.setIfInBounds_toArray, List.set_cons_zero, List.set_cons_succ]
          refine wpAnyH_ready (rs := [12]) (by kernel_rfl) (by simp) ?_
          refine AllReadyH.cons (o := _) (by simp only [List.getElem?_toArray, List.getElem?_cons_succ, List.getElem?_cons_zero]; rfl) (fun K hK => ?_) AllReadyH.nil
          go_simp
          go_at_call 23
          refine (rows_yes R2.out R3.out (by exact B9.out) (by exact Below.refl _ _)).mono ?_
          rintro e wN12 ⟨rfl, b12⟩
          have hN12 : Hid (Below w8.heap.size w8 wN12) := Lib.hid (Below.step hH.1.out b12 (Nat.le_refl _))
          refine hK.out _ _ (HSS.out _ hN12.out) (fun hH12 => ?_)
          clear hH hK K
          have hH := hH12
          try simp only [Act.put, List.setIfInBounds_toArray, List.set_cons_zero, List.set_cons_succ]
          refine wpAnyH_take (i := 13) (v := ?_) (by simp only [List.getElem?_toArray, List.getElem?_cons_succ, List.getElem?_cons_zero]; rfl) (by kernel_rfl) (by kernel_rfl) (by kernel_rfl) (by intro _ _ _ h; exact h) (Or.inl ⟨by rfl, ?_⟩) hH ?_
          rotate_left
          · intro w' hSw
            obtain ⟨_, y0, y1, y2, y3, y4, y5⟩ := hSw
            go_simp
            try with_reducible rfl
          try simp only [Act.put, List.setIfInBounds_toArray, List.set_cons_zero, List.set_cons_succ]
          refine wpAnyH_take (i := 14) (v := ?_) (by simp only [List.getElem?_toArray, List.getElem?_cons_succ, List.getElem?_cons_zero]; rfl) (by kernel_rfl) (by kernel_rfl) (by kernel_rfl) (by intro _ _ _ h; exact h) (Or.inl ⟨by rfl, ?_⟩) hH ?_
          rotate_left
          · intro w' hSw
            obtain ⟨_, y0, y1, y2, y3, y4, y5⟩ := hSw
            go_simp
            try with_reducible rfl
          try simp only [Act.put, List.setIfInBounds_toArray, List.set_cons_zero, List.set_cons_succ]
          refine wpAnyH_take (i := 15) (v := ?_) (by simp only [List.getElem?_toArray, List.getElem?_cons_succ, List.getElem?_cons_zero]; rfl) (by kernel_rfl) (by kernel_rfl) (by kernel_rfl) (by intro _ _ _ h; exact h) (Or.inl ⟨by rfl, ?_⟩) hH ?_
          rotate_left
          · intro w' hSw
            obtain ⟨_, y0, y1, y2, y3, y4, y5⟩ := hSw
            go_simp
            try with_reducible rfl
          try simp only [Act.put, List.setIfInBounds_toArray, List.set_cons_zero, List.set_cons_succ]
          refine wpAnyH_take (i := 16) (v := ?_) (by simp only [List.getElem?_toArray, List.getElem?_cons_succ, List.getElem?_cons_zero]; rfl) (by kernel_rfl) (by kernel_rfl) (by kernel_rfl) (by intro _ _ _ h; exact h) (Or.inl ⟨by rfl, ?_⟩) hH ?_
          rotate_left
          · intro w' hSw
            obtain ⟨_, y0, y1, y2, y3, y4, y5⟩ := hSw
            go_simp
            try with_reducible rfl
          try simp only [Act.put, List.setIfInBounds_toArray, List.set_cons_zero, List.set_cons_succ]
          refine wpAnyH_take (i := 17) (v := .bool false) (by simp only [List.getElem?_toArray, List.getElem?_cons_succ, List.getElem?_cons_zero]; rfl) (by kernel_rfl) (by kernel_rfl) (by kernel_rfl) (by intro _ _ _ h; exact h) (Or.inl ⟨by rfl, ?_⟩) hH ?_
          · intro w' hSw
            obtain ⟨_, y0, y1, y2, y3, y4, y5⟩ := hSw
            go_simp
            omega
          try simp only [Act.put, List.setIfInBounds_toArray, List.set_cons_zero, List.set_cons_succ]
          refine wpAnyH_take (i := 18) (v := ?_) (by simp only [List.getElem?_toArray, List.getElem?_cons_succ, List.getElem?_cons_zero]; rfl) (by kernel_rfl) (by kernel_rfl) (by kernel_rfl) (by intro _ _ _ h; exact h) (Or.inl ⟨by rfl, ?_⟩) hH ?_
          rotate_left
          · intro w' hSw
            obtain ⟨_, y0, y1, y2, y3, y4, y5⟩ := hSw
            go_simp
            try with_reducible rfl
          try simp only [Act.put, List.setIfInBounds_toArray, List.set_cons_zero, List.set_cons_succ]
          refine wpAnyH_take (i := 19) (v := ?_) (by simp only [List.getElem?_toArray, List.getElem?_cons_succ, List.getElem?_cons_zero]; rfl) (by kernel_rfl) (by kernel_rfl) (by kernel_rfl) (by intro _ _ _ h; exact h) (Or.inl ⟨by rfl, ?_⟩) hH ?_
          rotate_left
          · intro w' hSw
            obtain ⟨_, y0, y1, y2, y3, y4, y5⟩ := hSw
            go_simp
            try with_reducible rfl
          try simp only [Act.put, List.setIfInBounds_toArray, List.set_cons_zero, List.set_cons_succ]
          refine wpAnyH_take (i := 20) (v := ?_) (by simp only [List.getElem?_toArray, List.getElem?_cons_succ, List.getElem?_cons_zero]; rfl) (by kernel_rfl) (by kernel_rfl) (by kernel_rfl) (by intro _ _ _ h; exact h) (Or.inl ⟨by rfl, ?_⟩) hH ?_
          rotate_left
          · intro w' hSw
            obtain ⟨_, y0, y1, y2, y3, y4, y5⟩ := hSw
            go_simp
            try with_reducible rfl
          try simp only [Act.put, List.setIfInBounds_toArray, List.set_cons_zero, List.set_cons_succ]
          refine wpAnyH_ready (rs := [21]) (by kernel_rfl) (by simp) ?_
          refine AllReadyH.cons (o := _) (by simp only [List.getElem?_toArray, List.getElem?_cons_succ, List.getElem?_cons_zero]; rfl) (fun K hK => ?_) AllReadyH.nil
          go_simp
          go_at_call 15
          refine (CSM.out _ hH.1.out).mono ?_
          rintro e wN21 ⟨rfl, b21⟩
          have hN21 : Hid (Below w8.heap.size w8 wN21) := Lib.hid (Below.step hH.1.out b21 (Nat.le_refl _))
          refine hK.out _ _ (HSS.out _ hN21.out) (fun hH21 => ?_)
          clear hH hK K
          have hH := hH21
          try simp only [Act.put, List.setIfInBounds_toArray, List.set_cons_zero, List.set_cons_succ]
          refine wpAnyH_take (i := 22) (v := ?_) (by simp only [List.getElem?_toArray, List.getElem?_cons_succ, List.getElem?_cons_zero]; rfl) (by kernel_rfl) (by kernel_rfl) (by kernel_rfl) (by intro _ _ _ h; exact h) (Or.inl ⟨by rfl, ?_⟩) hH ?_
          rotate_left
          · intro w' hSw
            obtain ⟨_, y0, y1, y2, y3, y4, y5⟩ := hSw
            go_simp
            try with_reducible rfl
          try simp only [Act.put, List.setIfInBounds_toArray, List.set_cons_zero, List.set_cons_succ]
          refine wpAnyH_take (i := 23) (v := ?_) (by simp only [List.getElem?_toArray, List.getElem?_cons_succ, List.getElem?_cons_zero]; rfl) (by kernel_rfl) (by kernel_rfl) (by kernel_rfl) (by intro _ _ _ h; exact h) (Or.inl ⟨by rfl, ?_⟩) hH ?_
          rotate_left
          · intro w' hSw
            obtain ⟨_, y0, y1, y2, y3, y4, y5⟩ := hSw
            go_simp
            try with_reducible rfl
          try simp only [Act.put, List.setIfInBounds_toArray, List.set_cons_zero, List.set_cons_succ]
          refine wpAnyH_take (i := 24) (v := ?_) (by simp only [List.getElem?_toArray, List.getElem?_cons_succ, List.getElem?_cons_zero]; rfl) (by kernel_rfl) (by kernel_rfl) (by kernel_rfl) (by intro _ _ _ h; exact h) (Or.inl ⟨by rfl, ?_⟩) hH ?_
          rotate_left
          · intro w' hSw
            obtain ⟨_, y0, y1, y2, y3, y4, y5⟩ := hSw
            go_simp
            try with_reducible rfl
          try simp only [Act.put, List.setIfInBounds_toArray, List.set_cons_zero, List.set_cons_succ]
          refine wpAnyH_done (by kernel_rfl) ?_ _
          go_wp2_with fail
          go_ret
          exact ⟨rfl, Below.step HB8.out hH.1.out (Nat.le_refl _)⟩
        · have hL0 : (0 : Int) < (zs.length : Int) := by omega
          have dL0 : decide ((0 : Int) < (zs.length : Int)) = true := decide_eq_true hL0
          generalize zs.length = L at hL0 dL0 ⊢
          clear hz
          refine wpAnyH_take (i := 0) (v := ?_) (by simp only [List.getElem?_toArray, List.getElem?_cons_zero]; rfl) (by kernel_rfl) (by kernel_rfl) (by kernel_rfl) (by intro _ _ _ h; exact h) (Or.inl ⟨by rfl, ?_⟩) hH ?_
          rotate_left
          · intro w' hSw
            obtain ⟨_, y0, y1, y2, y3, y4, y5⟩ := hSw
            go_simp
            try with_reducible rfl
          try simp only [Act.put, List.setIfInBounds_toArray, List.set_cons_zero, List.set_cons_succ]
          refine wpAnyH_take (i := 1) (v := ?_) (by simp only [List.getElem?_toArray, List.getElem?_cons_succ, List.getElem?_cons_zero]; rfl) (by kernel_rfl) (by kernel_rfl) (by kernel_rfl) (by intro _ _ _ h; exact h) (Or.inl ⟨by rfl, ?_⟩) hH ?_
          rotate_left
          · intro w' hSw
            obtain ⟨_, y0, y1, y2, y3, y4, y5⟩ := hSw
            go_simp
            try with_reducible rfl
          try simp only [Act.put, List.setIfInBounds_toArray, List.set_cons_zero, List.set_cons_succ]
          refine wpAnyH_take (i := 2) (v := ?_) (by simp only [List.getElem?_toArray, List.getElem?_cons_succ, List.getElem?_cons_zero]; rfl) (by kernel_rfl) (by kernel_rfl) (by kernel_rfl) (by intro _ _ _ h; exact h) (Or.inl ⟨by rfl, ?_⟩) hH ?_
          rotate_left
          · intro w' hSw
            obtain ⟨_, y0, y1, y2, y3, y4, y5⟩ := hSw
            go_simp
            try with_reducible rfl
          try simp only [Act.put, List.setIfInBounds_toArray, List.set_cons_zero, List.set_cons_succ]
          refine wpAnyH_ready (rs := [3]) (by kernel_rfl) (by simp) ?_
          refine AllReadyH.cons (o := _) (by simp only [List.getElem?_toArray, List.getElem?_cons_succ, List.getElem?_cons_zero]; rfl) (fun K hK => ?_) AllReadyH.nil
          go_simp
          go_at_call 22
          refine (CPB.out _ hH.1.out).mono ?_
          rintro e wN3 ⟨d1, e1, rfl, b3⟩
          have hN3 : Hid (Below w8.heap.size w8 wN3) := Lib.hid (Below.step hH.1.out b3 (Nat.le_refl _))
          refine hK.out _ _ (HSS.out _ hN3.out) (fun hH3 => ?_)
          clear hH hK K
          have hH := hH3
          try simp only [Act.put, List.setIfInBounds_toArray, List.set_cons_zero, List.set_cons_succ]
          refine wpAnyH_take (i := 4) (v := ?_) (by simp only [List.getElem?_toArray, List.getElem?_cons_succ, List.getElem?_cons_zero]; rfl) (by kernel_rfl) (by kernel_rfl) (by kernel_rfl) (by intro _ _ _ h; exact h) (Or.inl ⟨by rfl, ?_⟩) hH ?_
          rotate_left
          · intro w' hSw
            obtain ⟨_, y0, y1, y2, y3, y4, y5⟩ := hSw
            go_simp
            try with_reducible rfl
          try simp only [Act.put, List.setIfInBounds_toArray, List.set_cons_zero, List.set_cons_succ]
          refine wpAnyH_take (i := 5) (v := ?_) (by simp only [List.getElem?_toArray, List.getElem?_cons_succ, List.getElem?_cons_zero]; rfl) (by kernel_rfl) (by kernel_rfl) (by kernel_rfl) (by intro _ _ _ h; exact h) (Or.inl ⟨by rfl, ?_⟩) hH ?_
          rotate_left
          · intro w' hSw
            obtain ⟨_, y0, y1, y2, y3, y4, y5⟩ := hSw
            go_simp
            try with_reducible rfl
          try simp only [Act.put, List.setIfInBounds_toArray, List.set_cons_zero, List.set_cons_succ]
          refine wpAnyH_take (i := 6) (v := ?_) (by simp only [List.getElem?_toArray, List.getElem?_cons_succ, List.getElem?_cons_zero]; rfl) (by kernel_rfl) (by kernel_rfl) (by kernel_rfl) (by intro _ _ _ h; exact h) (Or.inl ⟨by rfl, ?_⟩) hH ?_
          rotate_left
          · intro w' hSw
            obtain ⟨_, y0, y1, y2, y3, y4, y5⟩ := hSw
            go_simp
            try with_reducible rfl
          try simp only [Act.put, List.setIfInBounds_toArray, List.set_cons_zero, List.set_cons_succ]
          refine wpAnyH_take (i := 7) (v := ?_) (by simp only [List.getElem?_toArray, List.getElem?_cons_succ, List.getElem?_cons_zero]; rfl) (by kernel_rfl) (by kernel_rfl) (by kernel_rfl) (by intro _ _ _ h; exact h) (Or.inl ⟨by rfl, ?_⟩) hH ?_
          rotate_left
          · intro w' hSw
            obtain ⟨_, y0, y1, y2, y3, y4, y5⟩ := hSw
            go_simp
            try with_reducible rfl
          try simp only [Act.put, List.setIfInBounds_toArray, List.set_cons_zero, List.set_cons_succ]
          refine wpAnyH_take (i := 8) (v := ?_) (by simp only [List.getElem?_toArray, List.getElem?_cons_succ, List.getElem?_cons_zero]; rfl) (by kernel_rfl) (by kernel_rfl) (by kernel_rfl) (by intro _ _ _ h; exact h) (Or.inl ⟨by rfl, ?_⟩) hH ?_
          rotate_left
          · intro w' hSw
            obtain ⟨_, y0, y1, y2, y3, y4, y5⟩ := hSw
            go_simp
            try with_reducible rfl
          try simp only [Act.put, List.setIfInBounds_toArray, List.set_cons_zero, List.set_cons_succ]
          refine wpAnyH_take (i := 10) (v := ?_) (by simp only [List.getElem?_toArray, List.getElem?_cons_succ, List.getElem?_cons_zero]; rfl) (by kernel_rfl) (by kernel_rfl) (by kernel_rfl) (by intro _ _ _ h; exact h) (Or.inl ⟨by rfl, ?_⟩) hH ?_
          rotate_left
          · intro w' hSw
            obtain ⟨_, y0, y1, y2, y3, y4, y5⟩ := hSw
            go_simp
            try with_reducible rfl
          try simp only [Act.put, List.setIfInBounds_toArray, List.set_cons_zero, List.set_cons_succ]
          refine wpAnyH_ready (rs := [9]) (by kernel_rfl) (by simp) ?_
          refine AllReadyH.cons (o := _) (by simp only [List.getElem?_toArray, List.getElem?_cons_succ, List.getElem?_cons_zero]; rfl) (fun K hK => ?_) AllReadyH.nil
          go_simp
          go_at_call 24
          refine (CMB.out _ hH.1.out).mono ?_
          rintro e wN9 ⟨d2, e2, rfl, R2, b9⟩
          have hN9 : Hid (Below w8.heap.size w8 wN9) := Lib.hid (Below.step hH.1.out b9 (Nat.le_refl _))
          refine hK.out _ _ (HSS.out _ hN9.out) (fun hH9 => ?_)
          clear hH hK K
          have hH := hH9
          try simp only [Act.put, List.setIfInBounds_toArray, List.set_cons_zero, List.set_cons_succ]
          refine wpAnyH_ready (rs := [11]) (by kernel_rfl) (by simp) ?_
          refine AllReadyH.cons (o := _) (by simp only [List.getElem?_toArray, List.getElem?_cons_succ, List.getElem?_cons_zero]; rfl) (fun K hK => ?_) AllReadyH.nil
          go_simp
          go_at_call 24
          refine (CMA.out _ hH.1.out).mono ?_
          rintro e wN11 ⟨d3, e3, rfl, R3, b11⟩
          have hN11 : Hid (Below w8.heap.size w8 wN11) := Lib.hid (Below.step hH.1.out b11 (Nat.le_refl _))
          have B9 := Lib.hid b11
          refine hK.out _ _ (HSS.out _ hN11.out) (fun hH11 => ?_)
          clear hH hK K
          have hH := hH11
          try simp only [Act.put, List.setIfInBounds_toArray, List.set_cons_zero, List.set_cons_succ]
          refine wpAnyH_ready (rs := [12]) (by kernel_rfl) (by simp) ?_
          refine AllReadyH.cons (o := _) (by simp only [List.getElem?_toArray, List.getElem?_cons_succ, List.getElem?_cons_zero]; rfl) (fun K hK => ?_) AllReadyH.nil
          go_simp
          go_at_call 23
          refine (rows_yes R2.out R3.out (by exact B9.out) (by exact Below.refl _ _)).mono ?_
          rintro e wN12 ⟨rfl, b12⟩
          have hN12 : Hid (Below w8.heap.size w8 wN12) := Lib.hid (Below.step hH.1.out b12 (Nat.le_refl _))
          refine hK.out _ _ (HSS.out _ hN12.out) (fun hH12 => ?_)
          clear hH hK K
          have hH := hH12
          try simp only [Act.put, List.setIfInBounds_toArray, List.set_cons_zero, List.set_cons_succ]
          refine wpAnyH_take (i := 13) (v := ?_) (by simp only [List.getElem?_toArray, List.getElem?_cons_succ, List.getElem?_cons_zero]; rfl) (by kernel_rfl) (by kernel_rfl) (by kernel_rfl) (by intro _ _ _ h; exact h) (Or.inl ⟨by rfl, ?_⟩) hH ?_
          rotate_left
          · intro w' hSw
            obtain ⟨_, y0, y1, y2, y3, y4, y5⟩ := hSw
            go_simp
            try with_reducible rfl
          try simp only [Act.put, List.setIfInBounds_toArray, List.set_cons_zero, List.set_cons_succ]
          refine wpAnyH_take (i := 14) (v := ?_) (by simp only [List.getElem?_toArray, List.getElem?_cons_succ, List.getElem?_cons_zero]; rfl) (by kernel_rfl) (by kernel_rfl) (by kernel_rfl) (by intro _ _ _ h; exact h) (Or.inl ⟨by rfl, ?_⟩) hH ?_
          rotate_left
          · intro w' hSw
            obtain ⟨_, y0, y1, y2, y3, y4, y5⟩ := hSw
            go_simp
            try with_reducible rfl
          try simp only [Act.put, List.setIfInBounds_toArray, List.set_cons_zero, List.set_cons_succ]
          refine wpAnyH_take (i := 15) (v := ?_) (by simp only [List.getElem?_toArray, List.getElem?_cons_succ, List.getElem?_cons_zero]; rfl) (by kernel_rfl) (by kernel_rfl) (by kernel_rfl) (by intro _ _ _ h; exact h) (Or.inl ⟨by rfl, ?_⟩) hH ?_
          rotate_left
          · intro w' hSw
            obtain ⟨_, y0, y1, y2, y3, y4, y5⟩ := hSw
            go_simp
            try with_reducible rfl
          try simp only [Act.put, List.setIfInBounds_toArray, List.set_cons_zero, List.set_cons_succ]
          refine wpAnyH_take (i := 16) (v := ?_) (by simp only [List.getElem?_toArray, List.getElem?_cons_succ, List.getElem?_cons_zero]; rfl) (by kernel_rfl) (by kernel_rfl) (by kernel_rfl) (by intro _ _ _ h; exact h) (Or.inl ⟨by rfl, ?_⟩) hH ?_
          rotate_left
          · intro w' hSw
            obtain ⟨_, y0, y1, y2, y3, y4, y5⟩ := hSw
            go_simp
            try with_reducible rfl
          try simp only [Act.put, List.setIfInBounds_toArray, List.set_cons_zero, List.set_cons_succ]
          refine wpAnyH_take (i := 17) (v := .bool true) (by simp only [List.getElem?_toArray, List.getElem?_cons_succ, List.getElem?_cons_zero]; rfl) (by kernel_rfl) (by kernel_rfl) (by kernel_rfl) (by intro _ _ _ h; exact h) (Or.inl ⟨by rfl, ?_⟩) hH ?_
          · intro w' hSw
            obtain ⟨_, y0, y1, y2, y3, y4, y5⟩ := hSw
            go_simp
            omega
          try simp only [Act.put, List.setIfInBounds_toArray, List.set_cons_zero, List.set_cons_succ]
          refine wpAnyH_take (i := 18) (v := ?_) (by simp only [List.getElem?_toArray, List.getElem?_cons_succ, List.getElem?_cons_zero]; rfl) (by kernel_rfl) (by kernel_rfl) (by kernel_rfl) (by intro _ _ _ h; exact h) (Or.inl ⟨by rfl, ?_⟩) hH ?_
          rotate_left
          · intro w' hSw
            obtain ⟨_, y0, y1, y2, y3, y4, y5⟩ := hSw
            go_simp
            try with_reducible rfl
          try simp only [Act.put, List.setIfInBounds_toArray, List.set_cons_zero, List.set_cons_succ]
          refine wpAnyH_take (i := 19) (v := undef) (by simp only [List.getElem?_toArray, List.getElem?_cons_succ, List.getElem?_cons_zero]; rfl) (by kernel_rfl) (by kernel_rfl) (by kernel_rfl) (by intro _ _ _ h; exact h) (Or.inr ⟨by rfl, rfl⟩) hH ?_
          try simp only [Act.put, List.setIfInBounds_toArray, List.set_cons_zero, List.set_cons_succ]
          refine wpAnyH_take (i := 20) (v := undef) (by simp only [List.getElem?_toArray, List.getElem?_cons_succ, List.getElem?_cons_zero]; rfl) (by kernel_rfl) (by kernel_rfl) (by kernel_rfl) (by intro _ _ _ h; exact h) (Or.inr ⟨by rfl, rfl⟩) hH ?_
          try simp only [Act.put, List.setIfInBounds_toArray, List.set_cons_zero, List.set_cons_succ]
          refine wpAnyH_take (i := 21) (v := undef) (by simp only [List.getElem?_toArray, List.getElem?_cons_succ, List.getElem?_cons_zero]; rfl) (by kernel_rfl) (by kernel_rfl) (by kernel_rfl) (by intro _ _ _ h; exact h) (Or.inr ⟨by rfl, rfl⟩) hH ?_
          try simp only [Act.put, List.setIfInBounds_toArray, List.set_cons_zero, List.set_cons_succ]
          refine wpAnyH_take (i := 22) (v := ?_) (by simp only [List.getElem?_toArray, List.getElem?_cons_succ, List.getElem?_cons_zero]; rfl) (by kernel_rfl) (by kernel_rfl) (by kernel_rfl) (by intro _ _ _ h; exact h) (Or.inl ⟨by rfl, ?_⟩) hH ?_
          rotate_left
          · intro w' hSw
            obtain ⟨_, y0, y1, y2, y3, y4, y5⟩ := hSw
            go_simp
            try with_reducible rfl
          try simp only [Act.put, List.setIfInBounds_toArray, List.set_cons_zero, List.set_cons_succ]
          refine wpAnyH_take (i := 23) (v := ?_) (by simp only [List.getElem?_toArray, List.getElem?_cons_succ, List.getElem?_cons_zero]; rfl) (by kernel_rfl) (by kernel_rfl) (by kernel_rfl) (by intro _ _ _ h; exact h) (Or.inl ⟨by rfl, ?_⟩) hH ?_
          rotate_left
          · intro w' hSw
            obtain ⟨_, y0, y1, y2, y3, y4, y5⟩ := hSw
            go_simp
            try with_reducible rfl
          try simp only [Act.put, List.setIfInBounds_toArray, List.set_cons_zero, List.set_cons_succ]
          refine wpAnyH_take (i := 24) (v := ?_) (by simp only [List.getElem?_toArray, List.getElem?_cons_succ, List.getElem?_cons_zero]; rfl) (by kernel_rfl) (by kernel_rfl) (by kernel_rfl) (by intro _ _ _ h; exact h) (Or.inl ⟨by rfl, ?_⟩) hH ?_
          rotate_left
          · intro w' hSw
            obtain ⟨_, y0, y1, y2, y3, y4, y5⟩ := hSw
            go_simp
            try with_reducible rfl
          try simp only [Act.put, List.setIfInBounds_toArray, List.set_cons_zero, List.set_cons_succ]
          refine wpAnyH_done (by kernel_rfl) ?_ _
          go_wp2_with fail
          go_ret
          exact ⟨rfl, Below.step HB8.out hH.1.out (Nat.le_refl _)⟩
      · have hL := HNL.out hR0
        generalize zs.length = L at hL ⊢
        have hL' : (0 : Int) < (L : Int) := by omega
        clear hT0 hR0
        go_wp2_with fail
        go_ret
        exact ⟨rfl, HB8.out⟩

set_option maxRecDepth 100000 in
theorem lifted (os : Os) (started : os.Started) (H : Type) (enc : TypeId × Value → H) :
    ReturnsInHanded {} Try.checked os 7 .any (Rows.lsubNamedSpec.pre6 enc Try.prog Try.f7 Rows.lsubNamedRow.domain false) (Rows.lsubNamedSpec.post enc Try.prog Try.f7 false true false false) := by
  refine returnsInHanded_of_change (C := Try.checked) own started (by kernel_rfl) Try.func7
    (ChangeSpec.witness6 (enc := enc) (C := Try.checked) false ⟨#[], #[.slice none 0 0, .slice none 0 0], []⟩ 8 (by kernel_rfl) (by kernel_rfl) (by kernel_rfl) (by kernel_rfl)) ?_
  intro W base args ds gs before hval0 hW hcnd _
  have hval : ∀ (j : Nat) t v, Try.f7.params[j]? = some t → args[j]? = some v → Value.okWide Try.prog W .any base t v := hval0
  have hW' := hW
  obtain ⟨p, q, hA0, hV, rfl, hfz, hnd⟩ := hW
  have hA : DataW.TrodAll enc Try.prog W 0 (fun _ => true) true Try.f7.params.toList args.toList ds p := hA0
  rw [Try.params7] at hA hval
  obtain ⟨v0, v1, d0, d1, p0, p1, rfl, rfl, rfl, h0, h1⟩ := trodAll_two hA
  obtain ⟨rfl, rfl⟩ := trodVars_none hV
  obtain ⟨n0, a0, c0, rfl, hs0⟩ := arg_bytes (hval 0 23 v0 rfl rfl) h0
  obtain ⟨n1, a1, c1, rfl, hs1⟩ := arg_bytes (hval 1 23 v1 rfl rfl) h1
  have hlt := hW'.lt
  refine (walk n0 c0 n1 c1 a0 a1 W hs0 hs1).mono fun e W' ⟨he, hb⟩ => ?_
  subst he
  have t0 := Below.trod laidOut (by kernel_rfl) (of_decide_eq_true (by kernel_rfl)) h0 hb (fun x hx => hlt x (by simp [hx]))
  have t1 := Below.trod laidOut (by kernel_rfl) (of_decide_eq_true (by kernel_rfl)) h1 hb (fun x hx => hlt x (by simp [hx]))
  exact ⟨_, rfl, ⟨_, _, _, [], _, [], hW', trodAll_mk1 (shut_bool Try.underlying4 _), trodAll_mk2 t0 t1, rfl, hb.frame _, fun h => by cases h⟩⟩

theorem over : Rows.lsubNamedRow.holds Try.pinned (OpenSpec.ofChange Rows.lsubNamedSpec) :=
  OpenClaim.holds_of_wide 7 Try.f7 rfl rfl rfl rfl rfl rfl rfl ⟨rfl, rfl, rfl, rfl, rfl⟩ rfl rfl rfl rfl rfl (by kernel_rfl) Try.func7 (by kernel_rfl)
    (of_decide_eq_true (by kernel_rfl)) (by unfold Func.isWrapper; first | (rw [if_pos (by decide +kernel)]; kernel_rfl) | (rw [if_neg (by decide +kernel)]; exact ⟨rfl, rfl⟩))
    (fun os started H enc _ => lifted os started H enc)

/-- THE STATEMENT -/
theorem proved : Rows.LsubNamedSaid :=
  over
#print axioms proved
end Go.Proofs.Ytmbopdlmkbbbiaa.lsubNamed
