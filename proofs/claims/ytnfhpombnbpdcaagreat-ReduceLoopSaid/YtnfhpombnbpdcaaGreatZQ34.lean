/- Tlift2. No condition but those that stand in each statement. -/
import Derived.Test.YtnfhpombnbpdcaaGreatZQ33
namespace Go.Proofs.YtnfhpombnbpdcaaGreat
open Go.RowKit
theorem liftA_no {t : Tm} {fr by' : Int} (h : t.sh = false ∨ ¬ (0 ≤ fr ∧ fr ≤ 1000) ∨ ¬ (0 ≤ by' ∧ by' ≤ 1000)) : liftA t fr by' = (tZ, 1) := by
  unfold liftA; rw [if_neg]
  rintro ⟨h1, h2⟩
  rcases h with h | h | h
  · rw [h] at h1; cases h1
  · omega
  · omega
theorem liftA_yes {t : Tm} {fr by' : Int} (h : t.sh = true) (h1 : 0 ≤ fr ∧ fr ≤ 1000) (h2 : 0 ≤ by' ∧ by' ≤ 1000) : liftA t fr by' = fin1 (rep1 (gL fr by') t.k t.n t.ls t.ks 0) := by
  unfold liftA; rw [if_pos ⟨h, by omega⟩]
theorem may_yes {x : Int} (h : (decide (0 ≤ x) && decide (x ≤ 1000)) = true) : 0 ≤ x ∧ x ≤ 1000 := by simpa using h
theorem may_no {x : Int} (h : (decide (0 ≤ x) && decide (x ≤ 1000)) = false) : ¬ (0 ≤ x ∧ x ≤ 1000) := by
  rintro ⟨h1, h2⟩; simp [h1, h2] at h
set_option maxRecDepth 100000 in
set_option maxHeartbeats 4000000 in
theorem tLift_any (t : Tm) (fr by' : Int) (la ka : Option Addr) (lc kc B : Nat) (w : World) (hls : SlIn w (· < B) t.ls la lc) (hsl : TlIn w (· < B) t.ks ka kc) (hB : B ≤ w.heap.size) :
    Calls Tryz.prog 26 #[.agg #[.int .i64 t.k, .int .i64 t.n, .slice la t.ls.len lc, .slice ka t.ks.len kc], .int .i64 fr, .int .i64 by'] w (LePost (liftA t fr by') w) := by
  have hb : Below w.heap.size w ((w.alloc (.cells #[.int .i64 t.k, .int .i64 t.n, .slice la t.ls.len lc, .slice ka t.ks.len kc] 30)).alloc (.cells #[.int .i64 0, .int .i64 0, .slice none 0 0, .slice none 0 0] 30)) := ((Below.refl _ _).alloc (Nat.le_refl _) _).alloc (by simp) _
  have HR0 := Lib.hid (heap_second w (.cells #[.int .i64 t.k, .int .i64 t.n, .slice la t.ls.len lc, .slice ka t.ks.len kc] 30) (.cells #[.int .i64 0, .int .i64 0, .slice none 0 0, .slice none 0 0] 30))
  have HQ0 : Hid (((w.alloc (.cells #[.int .i64 t.k, .int .i64 t.n, .slice la t.ls.len lc, .slice ka t.ks.len kc] 30)).alloc (.cells #[.int .i64 0, .int .i64 0, .slice none 0 0, .slice none 0 0] 30)).heap[w.heap.size]? = some (.cells #[.int .i64 t.k, .int .i64 t.n, .slice la t.ls.len lc, .slice ka t.ks.len kc] 30 (0, 0))) := Lib.hid ((heap_old _ _ (by simp)).trans (heap_new _ _))
  have HB := Lib.hid hb
  have HWE : Hid (∀ (W : World) (r : Nat), Below w.heap.size w W → TabAt W r → Calls Tryz.prog 36 #[.map (some r), .agg #[.int .i64 t.k, .int .i64 t.n, .slice la t.ls.len lc, .slice ka t.ks.len kc]] W fun e w' => e = .returned (.bool t.sh) ∧ Below W.heap.size W w') := Lib.hid (by
    intro W r h h2
    exact twell_any t.k t.n t.ls t.ks la ka lc kc B r W (hls.below (h.mono hB)) (hsl.below (h.mono hB)) (Nat.le_trans hB h.size) h2)
  have HLI : Hid (t.sh = true → 0 ≤ fr ∧ fr ≤ 1000 → 0 ≤ by' ∧ by' ≤ 1000 → ∀ (W : World) (r : Nat), Below w.heap.size w W → TabAt W r → Calls Tryz.prog 39 #[.map (some r), .agg #[.int .i64 t.k, .int .i64 t.n, .slice la t.ls.len lc, .slice ka t.ks.len kc], .int .i64 fr, .int .i64 by'] W (TmPost B (rep1 (gL fr by') t.k t.n t.ls t.ks 0) W)) := Lib.hid (by
    intro h1 h2 h3 W r h h4
    exact tlifted_any t.k t.n fr by' t.ls t.ks la ka lc kc B r W (wf_of_sh h1) (sh_small h1).1 (hls.below (h.mono hB)) (hsl.below (h.mono hB)) (Nat.le_trans hB h.size) h4 (by omega))
  have HNO : Hid (t.sh = false ∨ ¬ (0 ≤ fr ∧ fr ≤ 1000) ∨ ¬ (0 ≤ by' ∧ by' ≤ 1000) → liftA t fr by' = (tZ, 1)) := Lib.hid liftA_no
  have HYES : Hid (t.sh = true → 0 ≤ fr ∧ fr ≤ 1000 → 0 ≤ by' ∧ by' ≤ 1000 → liftA t fr by' = fin1 (rep1 (gL fr by') t.k t.n t.ls t.ks 0)) := Lib.hid liftA_yes
  generalize t.sh = x at HWE HLI HNO HYES
  generalize rep1 (gL fr by') t.k t.n t.ls t.ks 0 = T at HLI HYES
  generalize liftA t fr by' = A at HNO HYES
  have HM1 := Lib.hid (tmay_any fr)
  have HM2 := Lib.hid (tmay_any by')
  have HY1 : Hid ((decide (0 ≤ fr) && decide (fr ≤ 1000)) = true → 0 ≤ fr ∧ fr ≤ 1000) := Lib.hid may_yes
  have HY2 : Hid ((decide (0 ≤ by') && decide (by' ≤ 1000)) = true → 0 ≤ by' ∧ by' ≤ 1000) := Lib.hid may_yes
  have HN1 : Hid ((decide (0 ≤ fr) && decide (fr ≤ 1000)) = false → ¬ (0 ≤ fr ∧ fr ≤ 1000)) := Lib.hid may_no
  have HN2 : Hid ((decide (0 ≤ by') && decide (by' ≤ 1000)) = false → ¬ (0 ≤ by' ∧ by' ≤ 1000)) := Lib.hid may_no
  generalize (decide (0 ≤ fr) && decide (fr ≤ 1000)) = y1 at HM1 HY1 HN1
  generalize (decide (0 ≤ by') && decide (by' ≤ 1000)) = y2 at HM2 HY2 HN2
  clear hls hsl hb
  have hbad : Hid (∀ w3 : World, Below w.heap.size w w3 → A = (tZ, 1) → LePost A w (.returned (.tuple #[.agg #[.int .i64 0, .int .i64 0, .slice none 0 0, .slice none 0 0], .int .i64 1])) ((((w3.setCell ⟨w.heap.size + 1, 0, none⟩ (.int .i64 0)).setCell ⟨w.heap.size + 1, 1, none⟩ (.int .i64 0)).setCell ⟨w.heap.size + 1, 2, none⟩ (.slice none 0 0)).setCell ⟨w.heap.size + 1, 3, none⟩ (.slice none 0 0))) := Lib.hid (by
    rintro w3 h rfl
    exact LePost.store (R := w.heap.size + 1) (T := tZ) (E := 1) (w := w) (w3 := w3) (P := fun _ => False) (la := none) (lc := 0) (x := none) (c := 0) (fun _ h => h.elim) (SlIn.none _ _) (TlIn.none _ _) h (by omega))
  go_enter Tryz.func26, Tryz.ntmps26
  go_wp2_with fail
  refine (tkinds_any _).mono ?_
  rintro e w1 ⟨rfl, hT, hb1⟩
  have HT : Hid (TabAt w1 (w.heap.size + 1 + 1)) := Lib.hid (by simpa using hT)
  have hz1 : w.heap.size + 1 < w1.heap.size := by have := hb1.size; simp at this; omega
  have HB1 := Lib.hid (Below.step HB.out hb1 (Nat.le_refl _))
  have HR1 := Lib.hid ((hb1.block (w.heap.size + 1) (by simp)).trans HR0.out)
  have HQ1 := Lib.hid ((hb1.block w.heap.size (by simp; omega)).trans HQ0.out)
  obtain ⟨q0, q1, q2, q3⟩ := cells4 HQ1.out
  clear hT hb1
  simp only [World.size_alloc]
  go_wp2_with fail
  refine (HWE.out _ _ HB1.out HT.out).mono ?_
  rintro e w2 ⟨rfl, hb2⟩
  have HB2 := Lib.hid (Below.step HB1.out hb2 (Nat.le_refl _))
  have HR2 := Lib.hid ((hb2.block (w.heap.size + 1) hz1).trans HR1.out)
  have HQ2 := Lib.hid ((hb2.block w.heap.size (by omega)).trans HQ1.out)
  have HT2 := Lib.hid (HT.out.later hb2)
  have hz2 : w.heap.size + 1 < w2.heap.size := Nat.lt_of_lt_of_le hz1 hb2.size
  obtain ⟨g0, g1, g2, g3⟩ := cells4 HR2.out
  have gz := free_of HR2.out
  clear q0 q1 q2 q3
  obtain ⟨q0, q1, q2, q3⟩ := cells4 HQ2.out
  clear hb2
  cases x with
  | false =>
    have HA := Lib.hid (HNO.out (.inl rfl))
    go_wp2_with fail
    refine bodyPost_ret (v := .tuple #[.agg #[.int .i64 0, .int .i64 0, .slice none 0 0, .slice none 0 0], .int .i64 1]) (by simp [results, Tryz.results26, go_sem, g0, g1, g2, g3]) rfl ?_
    exact hbad.out _ HB2.out HA.out
  | true =>
    go_wp2_with fail
    refine (HM1.out _).mono ?_
    rintro e w3 ⟨rfl, rfl⟩
    cases y1 with
    | false =>
      have HA := Lib.hid (HNO.out (.inr (.inl (HN1.out rfl))))
      go_wp2_with fail
      refine bodyPost_ret (v := .tuple #[.agg #[.int .i64 0, .int .i64 0, .slice none 0 0, .slice none 0 0], .int .i64 1]) (by simp [results, Tryz.results26, go_sem, g0, g1, g2, g3]) rfl ?_
      exact hbad.out _ HB2.out HA.out
    | true =>
      go_wp2_with fail
      refine (HM2.out _).mono ?_
      rintro e w3 ⟨rfl, rfl⟩
      cases y2 with
      | false =>
        have HA := Lib.hid (HNO.out (.inr (.inr (HN2.out rfl))))
        go_wp2_with fail
        refine bodyPost_ret (v := .tuple #[.agg #[.int .i64 0, .int .i64 0, .slice none 0 0, .slice none 0 0], .int .i64 1]) (by simp [results, Tryz.results26, go_sem, g0, g1, g2, g3]) rfl ?_
        exact hbad.out _ HB2.out HA.out
      | true =>
        have HA := Lib.hid (HYES.out trivial (HY1.out (by first | rfl | trivial)) (HY2.out (by first | rfl | trivial)))
        have HC := Lib.hid (HLI.out trivial (HY1.out (by first | rfl | trivial)) (HY2.out (by first | rfl | trivial)) _ _ HB2.out HT2.out)
        clear HNO HYES HLI HWE hbad HY1 HY2 HN1 HN2 HM1 HM2
        go_wp2_with fail
        refine HC.out.mono ?_
        rintro e w4 ⟨x1, y1, x2, y2, rfl, hl4, hs4, hb4⟩
        have HB4 := Lib.hid (Below.step HB2.out hb4 (Nat.le_refl _))
        have HR4 := Lib.hid ((hb4.block (w.heap.size + 1) hz2).trans HR2.out)
        have HT4 := Lib.hid (HT2.out.later hb4)
        have hz4 : w.heap.size + 1 < w4.heap.size := Nat.lt_of_lt_of_le hz2 hb4.size
        have HF := Lib.hid (tfin_any T x1 x2 y1 y2 w4.heap.size (w.heap.size + 1 + 1) w4 (hl4.weak (fun b h => h.2)) (hs4.weak (fun b h => h.2)) (Nat.le_refl _) HT4.out)
        rw [← HA.out] at HF
        clear hl4 hs4 hb4 HC HA g0 g1 g2 g3 gz q0 q1 q2 q3
        go_wp2_with fail
        refine HF.out.mono ?_
        rintro e w5 ⟨u1, v1, u2, v2, rfl, hl5, hs5, hb5⟩
        have HR5 := (hb5.block (w.heap.size + 1) hz4).trans HR4.out
        obtain ⟨g0, g1, g2, g3⟩ := cells4 HR5
        have gz := free_of HR5
        have hz5 : w.heap.size + 1 < w5.heap.size := Nat.lt_of_lt_of_le hz4 hb5.size
        have HE := Lib.hid (LePost.store (R := w.heap.size + 1) (T := A.1) (E := A.2) (w := w) (w3 := w5) (P := fun b => w4.heap.size ≤ b ∧ b < w5.heap.size) (fun b h => ⟨h.2, by omega, by omega⟩) hl5 hs5 (Below.step HB4.out hb5 (Nat.le_refl _)) (by omega))
        clear hl5 hs5 hb5 HR5 HF
        go_wp2_with fail
        refine bodyPost_ret (v := .tuple #[.agg #[.int .i64 A.1.k, .int .i64 A.1.n, .slice u1 A.1.ls.len v1, .slice u2 A.1.ks.len v2], .int .i64 A.2]) (by simp [results, Tryz.results26, go_sem, g0, g1, g2, g3]) rfl ?_
        exact HE.out
end Go.Proofs.YtnfhpombnbpdcaaGreat
