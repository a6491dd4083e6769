/- For every two lists of bytes and every two lists of lists of bytes the law LsubIs returns true: the value of what Sub tells is the value of the level, by the values of what is put in. No condition. -/
import Derived.Test.YtmbopdlmkbbbiaaAwake5
import Derived.Test.YtmbopdlmkbbbiaaSval
import Derived.Test.YtmbopdlmkbbbiaaVals5
import Derived.Test.YtmbopdlmkbbbiaaLevels5
import Derived.Test.YtmbopdlmkbbbiaaOpenRows
import Derived.Deep.RegionLaw
import Derived.Carry
namespace Go.Proofs.Ytmbopdlmkbbbiaa.lsubIs
open Go.ChangeShapes Go.WideShapes Go.ChangeAt Go.RowKit

theorem own : ownKnob Try.prog.godebug = none := by kernel_rfl

/-- What is answered where all may be put in: the level, or that it is too great. -/
theorem subE_two {P Q : Fo} {k n : Int} {f : Fo} (hP : P.len ≤ 5) (hQ : Q.len ≤ 10) (hr : rightB 5 10 k n f = true) (hp : allR P = true) (hq : allR Q = true) : subE P Q k n f = 0 ∨ (subE P Q k n f = 2 ∧ subT P Q k n f = .cons 0 0 .nil .nil) := by
  have hok : okS P Q k n f = true := by unfold okS; rw [decide_eq_true hP, decide_eq_true hQ, hr, hp, hq]; rfl
  by_cases h : rightT (sb1 P Q k n (sbF P Q f)) = true
  · left; unfold subE; rw [if_pos hok, if_pos h]
  · right
    have e : subE P Q k n f = 2 := by unfold subE; rw [if_pos hok, if_neg h]
    exact ⟨e, by unfold subT; rw [e]; rfl⟩

theorem subE_zero {P Q : Fo} {k n : Int} {f : Fo} (h : subE P Q k n f = 0) : subT P Q k n f = sb1 P Q k n (sbF P Q f) ∧ rightT (sb1 P Q k n (sbF P Q f)) = true := by
  refine ⟨by unfold subT; rw [if_pos h], ?_⟩
  unfold subE at h
  by_cases h1 : okS P Q k n f = true
  · rw [if_pos h1] at h
    by_cases h2 : rightT (sb1 P Q k n (sbF P Q f)) = true
    · exact h2
    · rw [if_neg h2] at h; cases h
  · rw [if_neg h1] at h; cases h
theorem allR_get : ∀ {F : Fo} {i : Nat}, allR F = true → i < F.len → ∀ {k n : Int} {ks : Fo}, F.get i = .cons k n ks .nil → rightB 5 10 k n ks = true
  | .nil, _, _, h, _, _, _, _ => by simp [Fo.len] at h
  | .cons a b c r, 0, hR, _, k, n, ks, e => by
    simp only [allR, Bool.and_eq_true] at hR
    injection e with e1 e2 e3
    subst e1 e2 e3
    exact hR.1
  | .cons a b c r, i + 1, hR, h, k, n, ks, e => by
    simp only [allR, Bool.and_eq_true] at hR
    exact allR_get (F := r) (i := i) hR.2 (by simp [Fo.len] at h; omega) e
/-- The document's value of a level, by small values. -/
theorem eval_small {xs ys : List Int} (hx : xs.length = 5) (hy : ys.length = 10) (hxs : ∀ i, 0 ≤ xs.getD i 0 ∧ xs.getD i 0 ≤ 20) (hys : ∀ i, 0 ≤ ys.getD i 0 ∧ ys.getD i 0 ≤ 20) {k n : Int} {f : Fo} (hr : rightB 5 10 k n f = true) :
    evV xs ys k n f = .tuple #[.int .i64 (vNode xs ys k n (vals xs ys f)), .int .i64 0] := evV_y (by rw [hx, hy]; exact hr) (natsB_of hxs) (natsB_of hys)
/-- What the law's last lines read, whatever has been made since: all of it lies below N. -/
def IsAt (N A X gx gy : Nat) (k n : Int) (F : Fo) (x : Option Addr) (c : Nat) (k2 n2 : Int) (F2 : Fo) (x2 : Option Addr) (c2 : Nat) (P : Fo) (y : Option Addr) (d : Nat) (Q : Fo) (y2 : Option Addr) (d2 : Nat) (l : List Int) (W : World) : Prop :=
  N ≤ W.heap.size ∧ (A < N ∧ X < N ∧ gx < N ∧ gy < N) ∧ W.heap[A]? = some (.cells #[.int .i64 k, .int .i64 n, .slice x F.len c] 30 (0, 0)) ∧ W.heap[X]? = some (.cells #[.int .i64 k2, .int .i64 n2, .slice x2 F2.len c2] 30 (0, 0)) ∧
  (SlIn W (· < N) F x c ∧ SlIn W (· < N) F2 x2 c2 ∧ SlIn W (· < N) P y d ∧ SlIn W (· < N) Q y2 d2) ∧ CpAt W gx l ∧ CpAt W gy (nought 10)
theorem IsAt.below {N A X gx gy : Nat} {k n : Int} {F : Fo} {x : Option Addr} {c : Nat} {k2 n2 : Int} {F2 : Fo} {x2 : Option Addr} {c2 : Nat} {P : Fo} {y : Option Addr} {d : Nat} {Q : Fo} {y2 : Option Addr} {d2 : Nat} {l : List Int} {W W' : World}
    (h : IsAt N A X gx gy k n F x c k2 n2 F2 x2 c2 P y d Q y2 d2 l W) (hb : Below N W W') : IsAt N A X gx gy k n F x c k2 n2 F2 x2 c2 P y d Q y2 d2 l W' := by
  obtain ⟨h1, h2, h3, h4, ⟨h5, h6, h7, h8⟩, h9, h10⟩ := h
  exact ⟨Nat.le_trans h1 hb.size, h2, (hb.block _ h2.1).trans h3, (hb.block _ h2.2.1).trans h4, ⟨h5.below hb, h6.below hb, h7.below hb, h8.below hb⟩, h9.keep (hb.block _ h2.2.2.1), h10.keep (hb.block _ h2.2.2.2)⟩

/-- A round of the loops: the level that is looked at, and what its value is told to be. -/
theorem is_round {N gx gy : Nat} {l : List Int} {W : World} (hN : N ≤ W.heap.size) (hx : CpAt W gx l) (hy : CpAt W gy (nought 10)) (hl : l.length = 5) (hlow : Low l) {R : Fo} (hR : allR R = true) {y : Option Addr} {d : Nat} (hs : SlIn W (· < N) R y d) {j : Nat} (hj : j < R.len) :
    ∃ (b o : Nat) (k n : Int) (ks : Fo) (a : Option Addr) (cap : Nat), y = some ⟨b, o, none⟩ ∧ W.cell? ⟨b, o + j * 3, none⟩ = some (.int .i64 k) ∧ W.cell? ⟨b, o + j * 3 + 1, none⟩ = some (.int .i64 n) ∧ W.cell? ⟨b, o + j * 3 + 2, none⟩ = some (.slice a ks.len cap) ∧
      Calls Try.prog 21 #[.agg #[.int .i64 k, .int .i64 n, .slice a ks.len cap], .slice (some ⟨gx, 0, none⟩) 5 5, .slice (some ⟨gy, 0, none⟩) 10 10] W fun e w' => e = .returned (.tuple #[.int .i64 ((vals l (nought 10) R).getD j 0), .int .i64 0]) ∧ Below W.heap.size W w' := by
  obtain ⟨b, o, k, n, ks, a, cap, rfl, hb, hg, e0, e1, e2, hs'⟩ := slGet hs hj
  refine ⟨b, o, k, n, ks, a, cap, rfl, e0, e1, e2, ?_⟩
  have h1 := rEval_any l (nought 10) k n ks a (some ⟨gx, 0, none⟩) (some ⟨gy, 0, none⟩) cap 5 10 W.heap.size W (hs'.mono hN) (hx.ints (by omega) (by unfold maxLen; omega)) (hy.ints (by decide) (by unfold maxLen; omega)) (Nat.le_refl _)
  rw [eval_small hl rfl (fun i => by have := hlow i; omega) (fun i => by rw [nought_get]; omega) (allR_get hR hj hg)] at h1
  have hv := vals_get l (nought 10) R j hj
  rw [hg] at hv
  have hv2 : vNode l (nought 10) k n (vals l (nought 10) ks) = (vals l (nought 10) R).getD j 0 := by injection hv
  rw [hv2, hl] at h1
  exact h1
/-- The value is stored. -/
theorem is_store {W W9 : World} {g j : Nat} {xs vs : List Int} (h : CpAt W g (upd xs (vs.take j))) (hb : Below W.heap.size W W9) (hj : j < vs.length) (hl : vs.length ≤ xs.length) :
    CpAt (W9.setCell ⟨g, j, none⟩ (.int .i64 (vs.getD j 0))) g (upd xs (vs.take (j + 1))) ∧ (∃ u, W9.cell? ⟨g, j, none⟩ = some (.int .i64 u)) ∧ W9.frozen? ⟨g, j, none⟩ = false ∧ g < W9.heap.size := by
  have h9 := h.below hb
  have hlen : (upd xs (vs.take j)).length = xs.length := upd_len (by simp; omega)
  have hj2 : j < (upd xs (vs.take j)).length := by omega
  have h1 := h9.set hj2 (vs.getD j 0)
  rw [upd_step hj hl] at h1
  exact ⟨h1, ⟨_, (h9.at hj2).1⟩, (h9.at hj2).2, h9.lt⟩

/-- Behind the loops: the two values, and that they are the same. -/
theorem is_end {N A X gx gy gs gt : Nat} {k n : Int} {F : Fo} {x : Option Addr} {c : Nat} {k2 n2 : Int} {F2 : Fo} {x2 : Option Addr} {c2 : Nat} {P : Fo} {y : Option Addr} {d : Nat} {Q : Fo} {y2 : Option Addr} {d2 : Nat} {l : List Int} {w W8 W : World} {cs ct : Nat}
    (h8 : IsAt N A X gx gy k n F x c k2 n2 F2 x2 c2 P y d Q y2 d2 l W8) (h : CpAt W gt (upd (nought 10) (vals l (nought 10) Q)) ∧ CpAt W gs (upd l (vals l (nought 10) P)) ∧ Below N W8 W) (hl : l.length = 5) (hlow : Low l) (hP : P.len ≤ 5) (hQ : Q.len ≤ 10) (hPr : allR P = true) (hQr : allR Q = true)
    (hr : rightB 5 10 k n F = true) (hr2 : rightB 5 10 k2 n2 F2 = true) (hT : sb1 P Q k n (sbF P Q F) = .cons k2 n2 F2 .nil) (hc : 10 ≤ ct ∧ ct ≤ maxLen ∧ 5 ≤ cs ∧ cs ≤ maxLen) (hwN : w.heap.size ≤ N) :
    w.heap.size ≤ N ∧ (W.cell? ⟨A, 0, none⟩ = some (.int .i64 k) ∧ W.cell? ⟨A, 1, none⟩ = some (.int .i64 n) ∧ W.cell? ⟨A, 2, none⟩ = some (.slice x F.len c)) ∧
    Calls Try.prog 21 #[.agg #[.int .i64 k, .int .i64 n, .slice x F.len c], .slice (some ⟨gs, 0, none⟩) 5 cs, .slice (some ⟨gt, 0, none⟩) 10 ct] W (fun e w' => e = .returned (.tuple #[.int .i64 (vNode l (nought 10) k2 n2 (vals l (nought 10) F2)), .int .i64 0]) ∧ Below W.heap.size W w') ∧
    ∀ W9, Below W.heap.size W W9 → (W9.cell? ⟨X, 0, none⟩ = some (.int .i64 k2) ∧ W9.cell? ⟨X, 1, none⟩ = some (.int .i64 n2) ∧ W9.cell? ⟨X, 2, none⟩ = some (.slice x2 F2.len c2)) ∧
      Calls Try.prog 21 #[.agg #[.int .i64 k2, .int .i64 n2, .slice x2 F2.len c2], .slice (some ⟨gx, 0, none⟩) 5 5, .slice (some ⟨gy, 0, none⟩) 10 10] W9 (fun e w' => e = .returned (.tuple #[.int .i64 (vNode l (nought 10) k2 n2 (vals l (nought 10) F2)), .int .i64 0]) ∧ Below W9.heap.size W9 w') := by
  have hz : ∀ i, 0 ≤ (nought 10).getD i 0 ∧ (nought 10).getD i 0 ≤ 8 := fun i => by rw [nought_get]; omega
  have hI := h8.below h.2.2
  obtain ⟨i1, i2, i3, i4, ⟨i5, i6, _, _⟩, i9, i10⟩ := hI
  have hp1 := allR_vals hlow hz P hPr
  have hq1 := allR_vals hlow hz Q hQr
  have hrp := right_parts hr
  have e1 := value_sb l (nought 10) hrp.1 hrp.2.1 hT
  have l1 : (upd l (vals l (nought 10) P)).length = 5 := by rw [upd_len (by rw [vals_len, hl]; exact hP), hl]
  have l2 : (upd (nought 10) (vals l (nought 10) Q)).length = 10 := by rw [upd_len (by rw [vals_len]; exact hQ)]; rfl
  refine ⟨hwN, ⟨cell_at i3 0, cell_at i3 1, cell_at i3 2⟩, ?_, fun W9 h9 => ?_⟩
  · have h1 := rEval_any (upd l (vals l (nought 10) P)) (upd (nought 10) (vals l (nought 10) Q)) k n F x (some ⟨gs, 0, none⟩) (some ⟨gt, 0, none⟩) c cs ct W.heap.size W (i5.mono i1) (h.2.1.ints (by omega) hc.2.2.2) (h.1.ints (by omega) hc.2.1) (Nat.le_refl _)
    rw [eval_small l1 l2 (upd_ok hlow hp1) (upd_ok hz hq1) hr, ← e1, l1, l2] at h1
    exact h1
  · have j4 := (h9.block _ (lt_of_block i4)).trans i4
    refine ⟨⟨cell_at j4 0, cell_at j4 1, cell_at j4 2⟩, ?_⟩
    have h1 := rEval_any l (nought 10) k2 n2 F2 x2 (some ⟨gx, 0, none⟩) (some ⟨gy, 0, none⟩) c2 5 10 W9.heap.size W9 (((i6.mono i1).below h9).mono h9.size) ((i9.below h9).ints (by omega) (by unfold maxLen; omega)) ((i10.below h9).ints (by decide) (by unfold maxLen; omega)) (Nat.le_refl _)
    rw [eval_small hl rfl (fun i => by have := hlow i; omega) (fun i => by have := hz i; omega) hr2, hl] at h1
    exact h1

set_option maxRecDepth 100000 in
set_option maxHeartbeats 8000000 in
theorem walk (l1 c1 l2 c2 l3 c3 l4 c4 : Nat) (a1 a2 a3 a4 : Option Addr) (w : World) (h1 : U8In w (· < w.heap.size) l1 a1 c1) (h2 : RowsIn w (· < w.heap.size) l2 a2 c2) (h3 : RowsIn w (· < w.heap.size) l3 a3 c3) (h4 : U8In w (· < w.heap.size) l4 a4 c4) :
    Calls Try.prog 6 #[.slice a1 l1 c1, .slice a2 l2 c2, .slice a3 l3 c3, .slice a4 l4 c4] w fun e w' => e = .returned (.bool true) ∧ Below w.heap.size w w' := by
  have HM : Hid (∀ W, Below w.heap.size w W → Calls Try.prog 9 #[.slice a1 l1 c1, .int .i64 5, .int .i64 10] W (MadeOk 5 10 W)) := Lib.hid (fun W h => made_any 5 10 (by omega) (by omega) (by omega) (by omega) l1 c1 w.heap.size a1 W (h1.keep' (fun b hb => h.block b hb)) h.size)
  have HP : Hid (∀ W, Below w.heap.size w W → 1 ≤ W.heap.size → Calls Try.prog 18 #[.slice a2 l2 c2, .int .i64 5] W (LsPost 5 W)) := Lib.hid (fun W h h0 => levels5_any 5 l2 c2 w.heap.size (by omega) a2 W (h2.below h) h.size h0)
  have HQ : Hid (∀ W, Below w.heap.size w W → 1 ≤ W.heap.size → Calls Try.prog 18 #[.slice a3 l3 c3, .int .i64 10] W (LsPost 10 W)) := Lib.hid (fun W h h0 => levels5_any 10 l3 c3 w.heap.size (by omega) a3 W (h3.below h) h.size h0)
  have HV : Hid (∀ W, Below w.heap.size w W → Calls Try.prog 20 #[.slice a4 l4 c4, .int .i64 5] W (ValsOk W)) := Lib.hid (fun W h => values5_any l4 c4 w.heap.size a4 W (h4.keep' (fun b hb => h.block b hb)) h.size)
  clear h1 h2 h3 h4
  go_enter Try.func6, Try.ntmps6
  go_wp2_with fail
  refine (awake5_any _).mono ?_
  rintro e w1 ⟨rfl, b1, z1⟩
  go_wp2_with fail
  refine (HM.out _ b1).mono ?_
  rintro e w2 ⟨k, n, F, x, c, rfl, hok, s2, b2⟩
  have HB2 := Lib.hid ((Below.step b1 b2 (Nat.le_refl _)).alloc (Nat.le_trans b1.size b2.size) (.cells #[.int .i64 k, .int .i64 n, .slice x F.len c] 30))
  have HU2 := Lib.hid (heap_new w2 (.cells #[.int .i64 k, .int .i64 n, .slice x F.len c] 30))
  have S2 : Hid (SlIn (w2.alloc (.cells #[.int .i64 k, .int .i64 n, .slice x F.len c] 30)) (· < w2.heap.size) F x c) := Lib.hid ((s2.weak (fun b h => h.2)).below ((Below.refl _ _).alloc (Nat.le_refl _) _))
  have HR := Lib.hid (lv_right (by omega) hok)
  have HZ2 : Hid (w2.heap.size < (w2.alloc (.cells #[.int .i64 k, .int .i64 n, .slice x F.len c] 30)).heap.size) := Lib.hid (by simp)
  clear hok s2 b2 b1 z1
  go_wp2_with fail
  generalize w2.alloc (.cells #[.int .i64 k, .int .i64 n, .slice x F.len c] 30) = W2 at HB2 HU2 S2 HZ2 ⊢
  refine (HP.out _ HB2.out (by have := HZ2.out; omega)).mono ?_
  rintro e w3 ⟨P, y, d, rfl, hPl, hPr, s3, b3⟩
  have HB3 := Lib.hid (Below.step HB2.out b3 (Nat.le_refl _))
  have B3 := Lib.hid b3
  have S3 := Lib.hid s3
  have HPR := Lib.hid (And.intro hPl hPr)
  clear s3 b3 hPl hPr
  go_wp2_with fail
  refine (HQ.out _ HB3.out (by have := HZ2.out; have := B3.out.size; omega)).mono ?_
  rintro e w4 ⟨Q, y2, d2, rfl, hQl, hQr, s4, b4⟩
  have HB4 := Lib.hid (Below.step HB3.out b4 (Nat.le_refl _))
  have B24 := Lib.hid (Below.step B3.out b4 (Nat.le_refl _))
  have S34 := Lib.hid ((S3.out.below b4).mono b4.size)
  have S4 := Lib.hid s4
  have HQR := Lib.hid (And.intro hQl hQr)
  have u2 := (B24.out.block _ (lt_of_block HU2.out)).trans HU2.out
  have HU4 := Lib.hid u2
  have S24 : Hid (SlIn w4 (· < w4.heap.size) F x c) := Lib.hid ((S2.out.below (B24.out.mono (Nat.le_of_lt HZ2.out))).mono (by have := HZ2.out; have := B24.out.size; omega))
  have q0 := cell_at u2 0
  have q1 := cell_at u2 1
  have q2 := cell_at u2 2
  have q3 := lt_of_block u2
  have HC := Lib.hid (sSub_any P Q k n F x y y2 c d d2 w4.heap.size w4 S24.out S34.out s4 (Nat.le_refl _))
  clear s4 b4 hQl hQr u2
  go_wp2_with fail
  refine HC.out.mono ?_
  rintro e w5 ⟨k2, n2, F2, x2, c2, hT, rfl, s5, b5⟩
  have hE := subE_two HPR.out.1 HQR.out.1 HR.out HPR.out.2 HQR.out.2
  rcases hE with hE | ⟨hE, hZ⟩
  · obtain ⟨hT2, hR2⟩ := subE_zero hE
    rw [hT2] at hT
    rw [hT] at hR2
    have hr2 : rightB 5 10 k2 n2 F2 = true := hR2
    rw [hE]
    have B45 := Lib.hid b5
    have S5 := Lib.hid s5
    have HT := Lib.hid hT
    have HR2 := Lib.hid hr2
    have HB5 : Hid (Below w.heap.size w (w5.alloc (.cells #[.int .i64 k2, .int .i64 n2, .slice x2 F2.len c2] 30))) := Lib.hid ((Below.step HB4.out b5 (Nat.le_refl _)).alloc (Nat.le_trans HB4.out.size b5.size) _)
    have HI5 : Hid (∀ (W : World) (gx gy : Nat) (l : List Int), Below (w5.alloc (.cells #[.int .i64 k2, .int .i64 n2, .slice x2 F2.len c2] 30)).heap.size (w5.alloc (.cells #[.int .i64 k2, .int .i64 n2, .slice x2 F2.len c2] 30)) W → CpAt W gx l → CpAt W gy (nought 10) → IsAt W.heap.size w2.heap.size w5.heap.size gx gy k n F x c k2 n2 F2 x2 c2 P y d Q y2 d2 l W ∧ Below w.heap.size w W) := Lib.hid (fun W gx gy l hb hx hy => by
      have b5W : Below w5.heap.size w5 W := ((Below.refl _ _).alloc (Nat.le_refl _) _).trans (hb.mono (by simp))
      have b4W : Below w4.heap.size w4 W := Below.step B45.out b5W (Nat.le_refl _)
      have hz4 := b4W.size
      have hz5 := b5W.size
      have e4 := (b4W.block _ (lt_of_block HU4.out)).trans HU4.out
      have e5 := (hb.block w5.heap.size (by simp)).trans (heap_new w5 _)
      exact ⟨⟨Nat.le_refl _, ⟨lt_of_block e4, lt_of_block e5, hx.lt, hy.lt⟩, e4, e5, ⟨(S24.out.below b4W).mono hz4, (S5.out.below b5W).mono hz5, (S34.out.below b4W).mono hz4, (S4.out.below b4W).mono hz4⟩, hx, hy⟩, Below.step HB5.out hb (Nat.le_refl _)⟩)
    clear hE hT2 hT hR2 hr2 s5 b5 q0 q1 q2 HC
    go_wp2_with fail
    have hmk := make10
    go_region_law (first
      | (go_simp; go_at_call 20; refine (HV.out _ (by first | exact HB5.out.drew | exact HB5.out.drew.alloc (Nat.le_trans HB5.out.size (by simp)) _)).mono ?_; rintro e w6 ⟨l, hl5, hlow, rfl, hcp, b6⟩))
    all_goals first
      | (have HN : Hid (IsAt (w6.alloc (.cells #[.int .i64 0, .int .i64 0, .int .i64 0, .int .i64 0, .int .i64 0, .int .i64 0, .int .i64 0, .int .i64 0, .int .i64 0, .int .i64 0] 3)).heap.size w2.heap.size w5.heap.size (w5.heap.size + 1) w6.heap.size k n F x c k2 n2 F2 x2 c2 P y d Q y2 d2 l (w6.alloc (.cells #[.int .i64 0, .int .i64 0, .int .i64 0, .int .i64 0, .int .i64 0, .int .i64 0, .int .i64 0, .int .i64 0, .int .i64 0, .int .i64 0] 3)) ∧ Below w.heap.size w (w6.alloc (.cells #[.int .i64 0, .int .i64 0, .int .i64 0, .int .i64 0, .int .i64 0, .int .i64 0, .int .i64 0, .int .i64 0, .int .i64 0, .int .i64 0] 3))) := Lib.hid (HI5.out _ _ _ l (((Below.refl _ _).drew.trans b6).alloc (by have := b6.size; simp at this ⊢; omega) _) (CpAt.below (show CpAt w6 (w5.heap.size + 1) l by simpa using hcp) ((Below.refl _ _).alloc (Nat.le_refl _) _)) (cp10 w6))
         generalize w6.alloc (.cells #[.int .i64 0, .int .i64 0, .int .i64 0, .int .i64 0, .int .i64 0, .int .i64 0, .int .i64 0, .int .i64 0, .int .i64 0, .int .i64 0] 3) = WN at HN ⊢
         generalize w5.heap.size + 1 = gx at HN ⊢
         generalize w6.heap.size = gy at HN ⊢)
      | (have HN : Hid (IsAt w6.heap.size w2.heap.size w5.heap.size (w5.heap.size + 1 + 1) (w5.heap.size + 1) k n F x c k2 n2 F2 x2 c2 P y d Q y2 d2 l w6 ∧ Below w.heap.size w w6) := Lib.hid (HI5.out _ _ _ l (((Below.refl _ _).alloc (Nat.le_refl _) _).drew.trans (b6.mono (by simp))) (show CpAt w6 (w5.heap.size + 1 + 1) l by simpa using hcp) (show CpAt w6 (w5.heap.size + 1) (nought 10) by simpa using (cp10 (w5.alloc (.cells #[.int .i64 k2, .int .i64 n2, .slice x2 F2.len c2] 30))).below ((Below.refl _ _).drew.trans b6)))
         generalize w6 = WN at HN ⊢
         generalize w5.heap.size + 1 + 1 = gx at HN ⊢
         generalize w5.heap.size + 1 = gy at HN ⊢)
    all_goals
      obtain ⟨gs, cs, w7, hrun1, t7, hgs, hcs, hcm, hsc⟩ := append_row 35 hl5 (by omega) (by omega) HN.out.1.2.2.2.2.2.1
      obtain ⟨gt, ct, w8, hrun2, t8, hgt, hct, hctm, htc⟩ := append_row 35 (show (nought 10).length = 10 from rfl) (by omega) (by omega) (HN.out.1.2.2.2.2.2.2.below t7)
      have HRUN1 := Lib.hid hrun1
      have HRUN2 := Lib.hid hrun2
      have HB8 : Hid (Below w.heap.size w w8) := Lib.hid (Below.step HN.out.2 (Below.step t7 t8 (Nat.le_refl _)) (Nat.le_refl _))
      have HI8 : Hid (IsAt WN.heap.size w2.heap.size w5.heap.size gx gy k n F x c k2 n2 F2 x2 c2 P y d Q y2 d2 l w8) := Lib.hid (HN.out.1.below (Below.step t7 t8 (Nat.le_refl _)))
      have HS8 : Hid (CpAt w8 gs l ∧ WN.heap.size ≤ gs ∧ gs < gt) := Lib.hid ⟨hsc.below t8, hgs, Nat.lt_of_lt_of_le hsc.lt hgt⟩
      have HT8 : Hid (CpAt w8 gt (nought 10) ∧ 10 ≤ ct ∧ ct ≤ maxLen ∧ 5 ≤ cs ∧ cs ≤ maxLen) := Lib.hid ⟨htc, hct, hctm, hcs, hcm⟩
      have hls := hcs
      have hlt := hct
      have HLOW := Lib.hid hlow
      have HWN : Hid (w.heap.size ≤ WN.heap.size) := Lib.hid HN.out.2.size
      have HL5 := Lib.hid hl5
      clear hrun1 hrun2 t7 t8 hgs hcs hcm hsc hgt hct hctm htc hls hlt hlow hl5 hmk hcp b6 HM HP HQ HV HB2 HB3 HB4 HB5 HI5 HN
      go_wp2_with (first | (at_builtin; refine wpList_append_run (by rfl) _ _ _ (by rfl) (by rfl) (by rfl) HRUN1.out ?_; clear HRUN1) | (at_builtin; refine wpList_append_run (by rfl) _ _ _ (by rfl) (by rfl) (by rfl) HRUN2.out ?_))
      have hPl := HPR.out.1
      have hQl := HQR.out.1
      go_loopw [19] (fun iv wr => ∃ j : Nat, iv = .int .i64 j ∧ j ≤ P.len ∧ Hid (CpAt wr gs (upd l ((vals l (nought 10) P).take j)) ∧ CpAt wr gt (nought 10) ∧ Below WN.heap.size w8 wr)) (fun iv _ => P.len - (intOf iv).toNat)
      case atStart => exact ⟨0, rfl, Nat.zero_le _, Lib.hid ⟨by have := HS8.out.1; simpa [upd] using this, HT8.out.1, Below.refl _ _⟩⟩
      case round =>
        obtain ⟨j, rfl, hj, hR⟩ := hrel
        have hj0 : (0 : Int) ≤ (j : Int) := by omega
        by_cases hjl : j < P.len
        · have hjl' : (j : Int) < (P.len : Int) := by omega
          have hI := HI8.out.below hR.out.2.2
          obtain ⟨b, o, k', n', ks, a', cap', rfl, e0, e1, e2, hC⟩ := is_round hI.1 hI.2.2.2.2.2.1 hI.2.2.2.2.2.2 HL5.out HLOW.out HPR.out.2 hI.2.2.2.2.1.2.2.1 hjl
          have HC := Lib.hid hC
          have HST := Lib.hid (fun (W9 : World) (hb : Below wr.heap.size wr W9) => is_store hR.out.1 hb (by rw [vals_len]; exact hjl) (by rw [vals_len, HL5.out]; exact hPl))
          have HGT := Lib.hid (fun (W9 : World) (hb : Below wr.heap.size wr W9) => And.intro (hR.out.2.1.below hb) (hR.out.2.2.trans (hb.mono hI.1)))
          clear hI hC
          go_wp2_with fail
          refine HC.out.mono ?_
          rintro e w9 ⟨rfl, b9⟩
          obtain ⟨t1, ⟨u, t2⟩, t3, t4⟩ := HST.out w9 b9
          obtain ⟨t5, t6⟩ := HGT.out w9 b9
          have HRN : Hid (CpAt (w9.setCell ⟨gs, j, none⟩ (.int .i64 ((vals l (nought 10) P).getD j 0))) gs (upd l ((vals l (nought 10) P).take (j + 1))) ∧ CpAt (w9.setCell ⟨gs, j, none⟩ (.int .i64 ((vals l (nought 10) P).getD j 0))) gt (nought 10) ∧ Below WN.heap.size w8 (w9.setCell ⟨gs, j, none⟩ (.int .i64 ((vals l (nought 10) P).getD j 0)))) := Lib.hid
            ⟨t1, t5.keep (Below.heap_setCell _ _ _ _ (show gt ≠ gs by have := HS8.out.2.2; omega)), t6.setCell HS8.out.2.1 _⟩
          generalize (vals l (nought 10) P).getD j 0 = vv at t1 HRN ⊢
          have hj5 : (j : Int) < 5 := by omega
          clear t1 t5 t6 b9 HST HGT HC
          go_wp2_with fail
          go_roundw
          case rel => exact ⟨j + 1, by go_num, by omega, HRN⟩
          case measure => simp [intOf]; omega
        · have hjl' : ¬ (j : Int) < (P.len : Int) := by omega
          have djl : decide ((j : Int) < (P.len : Int)) = false := by simpa using hjl'
          obtain rfl : j = P.len := by omega
          have HRR : Hid (CpAt wr gs (upd l (vals l (nought 10) P)) ∧ CpAt wr gt (nought 10) ∧ Below WN.heap.size w8 wr) := Lib.hid (by
            have h1 := hR.out
            rwa [List.take_of_length_le (by rw [vals_len]; exact Nat.le_refl _)] at h1)
          clear hR
          go_wp2_with fail
          go_loopw [20] (fun iv wr2 => ∃ j : Nat, iv = .int .i64 j ∧ j ≤ Q.len ∧ Hid (CpAt wr2 gt (upd (nought 10) ((vals l (nought 10) Q).take j)) ∧ CpAt wr2 gs (upd l (vals l (nought 10) P)) ∧ Below WN.heap.size w8 wr2)) (fun iv _ => Q.len - (intOf iv).toNat)
          case atStart => exact ⟨0, rfl, Nat.zero_le _, Lib.hid ⟨by have := HRR.out.2.1; simpa [upd] using this, HRR.out.1, HRR.out.2.2⟩⟩
          case round =>
            obtain ⟨j, rfl, hj, hR⟩ := hrel
            have hj0 : (0 : Int) ≤ (j : Int) := by omega
            by_cases hjl : j < Q.len
            · have hjl' : (j : Int) < (Q.len : Int) := by omega
              have hI := HI8.out.below hR.out.2.2
              obtain ⟨b, o, k', n', ks, a', cap', rfl, e0, e1, e2, hC⟩ := is_round hI.1 hI.2.2.2.2.2.1 hI.2.2.2.2.2.2 HL5.out HLOW.out HQR.out.2 hI.2.2.2.2.1.2.2.2 hjl
              have HC := Lib.hid hC
              have HST := Lib.hid (fun (W9 : World) (hb : Below wr.heap.size wr W9) => is_store hR.out.1 hb (by rw [vals_len]; exact hjl) (by rw [vals_len]; exact hQl))
              have HGT := Lib.hid (fun (W9 : World) (hb : Below wr.heap.size wr W9) => And.intro (hR.out.2.1.below hb) (hR.out.2.2.trans (hb.mono hI.1)))
              clear hI hC
              go_wp2_with fail
              refine HC.out.mono ?_
              rintro e w9 ⟨rfl, b9⟩
              obtain ⟨t1, ⟨u, t2⟩, t3, t4⟩ := HST.out w9 b9
              obtain ⟨t5, t6⟩ := HGT.out w9 b9
              have HRN : Hid (CpAt (w9.setCell ⟨gt, j, none⟩ (.int .i64 ((vals l (nought 10) Q).getD j 0))) gt (upd (nought 10) ((vals l (nought 10) Q).take (j + 1))) ∧ CpAt (w9.setCell ⟨gt, j, none⟩ (.int .i64 ((vals l (nought 10) Q).getD j 0))) gs (upd l (vals l (nought 10) P)) ∧ Below WN.heap.size w8 (w9.setCell ⟨gt, j, none⟩ (.int .i64 ((vals l (nought 10) Q).getD j 0)))) := Lib.hid
                ⟨t1, t5.keep (Below.heap_setCell _ _ _ _ (show gs ≠ gt by have := HS8.out.2.2; omega)), t6.setCell (show WN.heap.size ≤ gt by have := HS8.out.2; omega) _⟩
              generalize (vals l (nought 10) Q).getD j 0 = vv at t1 HRN ⊢
              have hj5 : (j : Int) < 10 := by omega
              clear t1 t5 t6 b9 HST HGT HC
              go_wp2_with fail
              go_roundw
              case rel => exact ⟨j + 1, by go_num, by omega, HRN⟩
              case measure => simp [intOf]; omega
            · have hjl' : ¬ (j : Int) < (Q.len : Int) := by omega
              have djl : decide ((j : Int) < (Q.len : Int)) = false := by simpa using hjl'
              obtain rfl : j = Q.len := by omega
              have HR3 : Hid (CpAt wr gt (upd (nought 10) (vals l (nought 10) Q)) ∧ CpAt wr gs (upd l (vals l (nought 10) P)) ∧ Below WN.heap.size w8 wr) := Lib.hid (by
                have h1 := hR.out
                rwa [List.take_of_length_le (by rw [vals_len]; exact Nat.le_refl _)] at h1)
              obtain ⟨e4, ⟨g0, g1, g2⟩, hEA, hEB⟩ := is_end HI8.out HR3.out HL5.out HLOW.out hPl hQl HPR.out.2 HQR.out.2 HR.out HR2.out HT.out HT8.out.2 HWN.out
              have HEA := Lib.hid hEA
              have HEB := Lib.hid hEB
              have HB9 := Lib.hid (Below.trans HB8.out (HR3.out.2.2.mono e4))
              clear hR hEA hEB HRR HR3
              go_wp2_with fail
              refine HEA.out.mono ?_
              rintro e w9 ⟨rfl, b9⟩
              obtain ⟨⟨q0, q1, q2⟩, hE3⟩ := HEB.out w9 b9
              have HE3 := Lib.hid hE3
              have HB9' := Lib.hid b9
              clear hE3 b9
              go_wp2_with fail
              refine HE3.out.mono ?_
              rintro e w10 ⟨rfl, b10⟩
              have HB10 := Lib.hid (Below.step HB9.out (Below.step HB9'.out b10 (Nat.le_refl _)) (Nat.le_refl _))
              clear b10
              go_wp2_with fail
              go_ret
              exact ⟨rfl, HB10.out⟩
  · rw [hE]
    rw [hZ] at hT
    obtain ⟨rfl, rfl, rfl⟩ := one_eq hT
    have HB5 : Hid (Below w.heap.size w (w5.alloc (.cells #[.int .i64 0, .int .i64 0, .slice x2 Fo.nil.len c2] 30))) := Lib.hid ((Below.step HB4.out b5 (Nat.le_refl _)).alloc (Nat.le_trans HB4.out.size b5.size) _)
    clear hE hZ hT s5 b5 q0 q1 q2
    go_wp2_with fail
    go_ret
    exact ⟨rfl, HB5.out⟩

set_option maxRecDepth 100000 in
theorem lifted (os : Os) (started : os.Started) (H : Type) (enc : TypeId × Value → H) :
    ReturnsInHanded {} Try.checked os 6 .any (Rows.lsubIsSpec.pre6 enc Try.prog Try.f6 Rows.lsubIsRow.domain false) (Rows.lsubIsSpec.post enc Try.prog Try.f6 false true false false) := by
  refine returnsInHanded_of_change (C := Try.checked) own started (by kernel_rfl) Try.func6
    (ChangeSpec.witness6 (enc := enc) (C := Try.checked) false ⟨#[], #[.slice none 0 0, .slice none 0 0, .slice none 0 0, .slice none 0 0], []⟩ 8 (by kernel_rfl) (by kernel_rfl) (by kernel_rfl) (by kernel_rfl)) ?_
  intro W base args ds gs before hval0 hW hcnd _
  have hval : ∀ (j : Nat) t v, Try.f6.params[j]? = some t → args[j]? = some v → Value.okWide Try.prog W .any base t v := hval0
  have hW' := hW
  obtain ⟨p, q, hA0, hV, rfl, hfz, hnd⟩ := hW
  have hA : DataW.TrodAll enc Try.prog W 0 (fun _ => true) true Try.f6.params.toList args.toList ds p := hA0
  rw [Try.params6] at hA hval
  obtain ⟨v0, vs0, d0, ds0, p0, q0, hargs, rfl, rfl, h0, hr0⟩ := trodAll_cons hA
  obtain ⟨v1, vs1, d1, ds1, p1, q1, rfl, rfl, rfl, h1, hr1⟩ := trodAll_cons hr0
  obtain ⟨v2, vs2, d2, ds2, p2, q2, rfl, rfl, rfl, h2, hr2⟩ := trodAll_cons hr1
  obtain ⟨v3, vs3, d3, ds3, p3, q3, rfl, rfl, rfl, h3, hr3⟩ := trodAll_cons hr2
  obtain ⟨rfl, rfl, rfl⟩ := trodAll_nil hr3
  obtain rfl : args = #[v0, v1, v2, v3] := by cases args; simp_all
  obtain ⟨rfl, rfl⟩ := trodVars_none hV
  obtain ⟨n1, a1, c1, rfl, hs0⟩ := arg_bytes (hval 0 23 v0 rfl rfl) h0
  obtain ⟨n2, a2, c2, rfl, hs1⟩ := arg_rows (hval 1 22 v1 rfl rfl) h1
  obtain ⟨n3, a3, c3, rfl, hs2⟩ := arg_rows (hval 2 22 v2 rfl rfl) h2
  obtain ⟨n4, a4, c4, rfl, hs3⟩ := arg_bytes (hval 3 23 v3 rfl rfl) h3
  have hlt := hW'.lt
  refine (walk n1 c1 n2 c2 n3 c3 n4 c4 a1 a2 a3 a4 W hs0 hs1 hs2 hs3).mono fun e W' ⟨he, hb⟩ => ?_
  subst he
  have t0 := Below.trod laidOut (by kernel_rfl) (of_decide_eq_true (by kernel_rfl)) h0 hb (fun x hx => hlt x (by simp [hx]))
  have t1 := Below.trod laidOut (by kernel_rfl) (of_decide_eq_true (by kernel_rfl)) h1 hb (fun x hx => hlt x (by simp [hx]))
  have t2 := Below.trod laidOut (by kernel_rfl) (of_decide_eq_true (by kernel_rfl)) h2 hb (fun x hx => hlt x (by simp [hx]))
  have t3 := Below.trod laidOut (by kernel_rfl) (of_decide_eq_true (by kernel_rfl)) h3 hb (fun x hx => hlt x (by simp [hx]))
  exact ⟨_, rfl, ⟨_, _, _, [], _, [], hW', trodAll_mk1 (shut_bool Try.underlying4 _), ⟨_, _, t0, trodAll_mk3 t1 t2 t3, rfl⟩, rfl, hb.frame _, fun h => by cases h⟩⟩

theorem over : Rows.lsubIsRow.holds Try.pinned (OpenSpec.ofChange Rows.lsubIsSpec) :=
  OpenClaim.holds_of_wide 6 Try.f6 rfl rfl rfl rfl rfl rfl rfl ⟨rfl, rfl, rfl, rfl, rfl⟩ rfl rfl rfl rfl rfl (by kernel_rfl) Try.func6 (by kernel_rfl)
    (of_decide_eq_true (by kernel_rfl)) (by unfold Func.isWrapper; first | (rw [if_pos (by decide +kernel)]; kernel_rfl) | (rw [if_neg (by decide +kernel)]; exact ⟨rfl, rfl⟩))
    (fun os started H enc _ => lifted os started H enc)

/-- THE STATEMENT -/
theorem proved : Rows.LsubIsSaid :=
  over
#print axioms proved
end Go.Proofs.Ytmbopdlmkbbbiaa.lsubIs
