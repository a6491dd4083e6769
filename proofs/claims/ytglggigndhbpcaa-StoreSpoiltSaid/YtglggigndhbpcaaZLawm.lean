/- What a right program answers of three clauses, as plain mathematics. No condition. -/
import Derived.Test.YtglggigndhbpcaaZJk
import Derived.Test.YtglggigndhbpcaaZLrows
namespace Go.Proofs.Ytglggigndhbpcaa
open Go.RowKit

def awC : List Cl := [([(0, 0)], (1, 1)), ([(1, 0)], (2, 0))]
def awD : List Cl := [([(2, 0)], (0, 1))]
theorem aw_ok : posB 3 awC = true ∧ lmK 3 awC = [0, 1, 1] := by
  have hr : hrB 3 awC = true := by decide
  have hm : ModJ awC [0, 1, 1] := by intro c hc; simp [awC] at hc; rcases hc with rfl | rfl <;> decide
  have hz : LeM (zerosJ 3) [0, 1, 1] := zerosJ_le rfl (by decide)
  have hp := posB_yes (vars := 3) hr hz hm
  refine ⟨hp, lm_is hp ⟨hz, hm, fun c hc hcm => ?_⟩⟩
  have h1 := hcm ([(0, 0)], (1, 1)) (by simp [awC])
  have h2 := hcm ([(1, 0)], (2, 0)) (by simp [awC])
  have h0 := hc.2 0
  simp [brkB, askC, lowA, valA] at h1 h2
  rw [zerosJ_at] at h0
  simp only [List.getD_eq_getElem?_getD] at h0
  have hl := hc.1
  refine ⟨by rw [← hl]; rfl, fun i => ?_⟩
  match i with
  | 0 => simp; omega
  | 1 => simp; omega
  | 2 => simp; omega
  | i + 3 => rw [getD_out (m := [0, 1, 1]) (by simp), getD_out (m := c) (by rw [← hl, zerosJ_len]; show 3 ≤ i + 3; omega)]; exact Int.le_refl _
theorem aw_new : newV 3 = 3 ∧ newE 3 = 0 ∧ rgS 3 [] (zerosJ (3 : Int).toNat) = true := by
  obtain ⟨h1, h2, h3⟩ := new_right (vars := 3) (by decide)
  rw [h1] at h3
  exact ⟨h1, h2, h3⟩
theorem aw_no : newV 0 = 0 ∧ newE 0 = 1 := by decide
theorem aw_add : addL 3 [] (zerosJ (3 : Int).toNat) awC = awC ∧ addM 3 [] (zerosJ (3 : Int).toNat) awC = [0, 1, 1] ∧ addE 3 [] (zerosJ (3 : Int).toNat) awC = 0 := by
  obtain ⟨h1, h2, _, h4⟩ := ad_yes (l := []) (k := awC) aw_new.2.2 (by decide) (by rw [List.nil_append]; exact aw_ok.1)
  rw [List.nil_append] at h1 h2
  exact ⟨h1.symm, h2.symm.trans aw_ok.2, h4.symm⟩
theorem aw_right : rgS 3 awC [0, 1, 1] = true := by
  rw [← aw_ok.2]; exact rgS_lm aw_ok.1
theorem aw_none : rgS 0 [] [] = false := by
  unfold rgS
  rw [posB_right (vars := 0) (by decide)]; rfl
theorem aw_yes : folB 3 awC [0, 1, 1] (2, 1) [(0, 0)] = true ∧ folE 3 awC [0, 1, 1] (2, 1) [(0, 0)] = 0 := by
  obtain ⟨h1, h2⟩ := fol_yes (a := (2, 1)) (b := [(0, 0)]) aw_right (by decide) (by decide) (by decide)
  refine ⟨?_, h1⟩
  rw [h2, posB_no (vars := 3) (l := awC ++ notK (2, 1) [(0, 0)]) fun b _ hm => ?_]
  · rfl
  · have k1 := hm ([(0, 0)], (1, 1)) (by simp [awC])
    have k2 := hm ([(1, 0)], (2, 0)) (by simp [awC])
    have k3 := hm ([(2, 1)], (0, 1)) (by simp [notK])
    simp [brkB, askC, lowA, valA] at k1 k2 k3
    omega
theorem aw_not : folB 3 awC [0, 1, 1] (2, 2) [(0, 0)] = false ∧ folE 3 awC [0, 1, 1] (2, 2) [(0, 0)] = 0 := by
  obtain ⟨h1, h2⟩ := fol_yes (a := (2, 2)) (b := [(0, 0)]) aw_right (by decide) (by decide) (by decide)
  refine ⟨?_, h1⟩
  rw [h2, posB_yes (vars := 3) (l := awC ++ notK (2, 2) [(0, 0)]) (b := [0, 1, 1]) (by decide) (zerosJ_le rfl (by decide)) ?_]
  · rfl
  · intro c hc; simp [awC, notK] at hc; rcases hc with rfl | rfl | rfl <;> decide
theorem aw_bad (b : List Int) (h1 : brkB b ([(0, 0)], (1, 1)) = false) (h2 : brkB b ([(1, 0)], (2, 0)) = false) (h3 : brkB b ([(2, 0)], (0, 1)) = false) : False := by
  simp [brkB, askC, lowA, valA] at h1 h2 h3
  omega
theorem aw_core : coreR 3 (awC ++ awD) = [0, 1, 2] := by
  have hr : hrB 3 (awC ++ awD) = true := by decide
  have hn : posB 3 (awC ++ awD) = false := posB_no (vars := 3) fun b _ h => aw_bad b (h _ (by simp [awC])) (h _ (by simp [awC])) (h _ (by simp [awD]))
  have s0 : coreK 3 (awC ++ awD) 0 = [0, 1, 2] := rfl
  have s1 : coreK 3 (awC ++ awD) 1 = [0, 1, 2] := by
    show (if posB 3 (pickL (awC ++ awD) (lessK 0 (coreK 3 (awC ++ awD) 0))) = true then coreK 3 (awC ++ awD) 0 else lessK 0 (coreK 3 (awC ++ awD) 0)) = _
    rw [s0, if_pos (posB_yes (vars := 3) (b := [1, 0, 0]) (by decide) (zerosJ_le rfl (by decide)) (by
      rw [show pickL (awC ++ awD) (lessK 0 [0, 1, 2]) = [([(1, 0)], (2, 0)), ([(2, 0)], (0, 1))] by decide]
      intro c hc; simp at hc; rcases hc with rfl | rfl <;> decide))]
  have s2 : coreK 3 (awC ++ awD) 2 = [0, 1, 2] := by
    show (if posB 3 (pickL (awC ++ awD) (lessK 1 (coreK 3 (awC ++ awD) 1))) = true then coreK 3 (awC ++ awD) 1 else lessK 1 (coreK 3 (awC ++ awD) 1)) = _
    rw [s1, if_pos (posB_yes (vars := 3) (b := [1, 2, 0]) (by decide) (zerosJ_le rfl (by decide)) (by
      rw [show pickL (awC ++ awD) (lessK 1 [0, 1, 2]) = [([(0, 0)], (1, 1)), ([(2, 0)], (0, 1))] by decide]
      intro c hc; simp at hc; rcases hc with rfl | rfl <;> decide))]
  have s3 : coreK 3 (awC ++ awD) 3 = [0, 1, 2] := by
    show (if posB 3 (pickL (awC ++ awD) (lessK 2 (coreK 3 (awC ++ awD) 2))) = true then coreK 3 (awC ++ awD) 2 else lessK 2 (coreK 3 (awC ++ awD) 2)) = _
    rw [s2, if_pos (posB_yes (vars := 3) (b := [0, 1, 1]) (by decide) (zerosJ_le rfl (by decide)) (by
      rw [show pickL (awC ++ awD) (lessK 2 [0, 1, 2]) = [([(0, 0)], (1, 1)), ([(1, 0)], (2, 0))] by decide]
      intro c hc; simp at hc; rcases hc with rfl | rfl <;> decide))]
  unfold coreR
  rw [if_pos hr, if_neg (by rw [hn]; exact Bool.false_ne_true)]
  exact s3
theorem aw_loop : addE 3 awC [0, 1, 1] awD = 30 ∧ addC 3 awC [0, 1, 1] awD = [0, 1, 2] := by
  obtain ⟨_, _, h3, h4⟩ := ad_loop (k := awD) aw_right (by decide) (by decide) (posB_no (vars := 3) fun b _ h => aw_bad b (h _ (by simp [awC])) (h _ (by simp [awC])) (h _ (by simp [awD])))
  exact ⟨h4.symm, h3.symm.trans aw_core⟩
end Go.Proofs.Ytglggigndhbpcaa
