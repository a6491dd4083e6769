/- What Solve and From tell of right clauses, in plain words: the least model, or that there is none. No condition but those that stand in each statement. -/
import Derived.Test.YtkjmhjeebamehaaJsolve
namespace Go.Proofs.Ytkjmhjeebamehaa
open Go.RowKit

theorem hrB_mk {V : Nat} {l : List Cl} (h1 : 1 ≤ V) (h2 : V ≤ 16) (h3 : l.length ≤ 60) (h4 : l.all (clB V) = true) : hrB V l = true := by
  unfold hrB cntB
  rw [h4]
  simp
  omega
/-- Solve: the least model of all, or none. -/
theorem sv_cases {V : Nat} {l : List Cl} {a : List Int} {is : Bool} {n : Int} (hr : hrB V l = true) (ht : TellJ l (zerosJ V) (((V : Int) - 1) * mostD 0 l) a is n) :
    (is = true ∧ LeastJ l (zerosJ V) a ∧ a.length = V ∧ (∀ i, 0 ≤ a.getD i 0 ∧ a.getD i 0 ≤ ((V : Int) - 1) * mostD 0 l) ∧ natsB a = true) ∨ (is = false ∧ a = [] ∧ ∀ b, LeM (zerosJ V) b → ¬ ModJ l b) := by
  obtain ⟨_, _, _, v4⟩ := hrB_of hr
  have hlim := lim_bd hr
  have hR : RightJ (zerosJ V).length l := by rw [zerosJ_len]; exact RightJ.of v4
  have e : ((V : Int) - 1) * mostD 0 l = 0 + (((zerosJ V).length : Int) - 1) * mostD 0 l := by rw [zerosJ_len]; omega
  rw [e] at ht
  rcases ht.cases hR (fun i _ => by rw [zerosJ_at]; omega) with ⟨h1, h2, h3⟩ | h
  · rw [← e] at h3
    have hl : a.length = V := by rw [← h2.1.1, zerosJ_len]
    have hb : ∀ i, 0 ≤ a.getD i 0 ∧ a.getD i 0 ≤ ((V : Int) - 1) * mostD 0 l := fun i => by
      have h0 := h2.1.2 i
      rw [zerosJ_at] at h0
      refine ⟨h0, ?_⟩
      by_cases hi : i < a.length
      · exact h3 i hi
      · rw [getD_out (by omega)]; exact hlim.1
    exact .inl ⟨h1, h2, hl, hb, nats_of fun i => ⟨(hb i).1, by have := (hb i).2; omega⟩⟩
  · exact .inr h
/-- From: the least model that is no less, or none. -/
theorem fm_cases {l : List Cl} {m a : List Int} {is : Bool} {n : Int} (hk : brkOk m l = true) (hmx : maxL m ≤ 1000) (ht : TellJ l m (hiJ m l) a is n) :
    (is = true ∧ LeastJ l m a ∧ a.length = m.length ∧ (∀ i, 0 ≤ a.getD i 0 ∧ a.getD i 0 ≤ hiJ m l) ∧ natsB a = true) ∨ (is = false ∧ a = [] ∧ ∀ b, LeM m b → ¬ ModJ l b) := by
  simp only [brkOk, Bool.and_eq_true] at hk
  obtain ⟨hr, hn⟩ := hk
  obtain ⟨v1, _, _, v4⟩ := hrB_of hr
  have hlim := lim_bd hr
  have h0 : 0 ≤ maxL m := (maxL_bd (X := 1099511627776) (by omega) (fun i => natsB_getD hn i)).1
  rcases ht.cases (B := maxL m) (RightJ.of v4) (fun i hi => maxL_ge hi) with ⟨h1, h2, h3⟩ | h
  · have hl : a.length = m.length := h2.1.1.symm
    have hb : ∀ i, 0 ≤ a.getD i 0 ∧ a.getD i 0 ≤ hiJ m l := fun i => by
      have h4 := h2.1.2 i
      have h5 := (natsB_getD hn i).1
      refine ⟨by omega, ?_⟩
      by_cases hi : i < a.length
      · exact h3 i hi
      · rw [getD_out (by omega)]; unfold hiJ; omega
    exact .inl ⟨h1, h2, hl, hb, nats_of fun i => ⟨(hb i).1, by have := (hb i).2; unfold hiJ at this; omega⟩⟩
  · exact .inr h
theorem brk_some {m : List Int} {l : List Cl} (h : ¬ ModJ l m) : 0 < (brkL m l).length := by
  rcases Nat.eq_zero_or_pos (brkL m l).length with h0 | h0
  · exact absurd (brkL_none.1 (List.eq_nil_of_length_eq_zero h0)) h
  · exact h0
theorem brk_nil {m : List Int} {l : List Cl} (h : (brkL m l).length = 0) : ModJ l m := brkL_none.1 (List.eq_nil_of_length_eq_zero h)
theorem LowM.le {m : List Int} {V : Nat} (h : LowM m) (hl : m.length = V) : LeM (zerosJ V) m := zerosJ_le hl h.nats
theorem LowM.most {m : List Int} (h : LowM m) (hl : 1 ≤ m.length) : maxL m ≤ 1000 := (maxL_bd (X := 1000) hl (fun i => by have := h i; omega)).2
theorem brkOk_mk {m : List Int} {V : Nat} {l : List Cl} (hr : hrB V l = true) (hl : m.length = V) (hn : natsB m = true) : brkOk m l = true := by
  subst hl
  simp [brkOk, hr, hn]
theorem bk_ok {m : List Int} {l : List Cl} (h : brkOk m l = true) : bkR m l = brkL m l ∧ bkE m l = 0 := by simp [bkR, bkE, h]
end Go.Proofs.Ytkjmhjeebamehaa
