/- What Solve tells of right clauses, in plain words: the least model, or that there is none. No condition but those that stand in each statement. -/
import Derived.Test.YtnfmcenedohdnaaJsv
namespace Go.Proofs.Ytnfmcenedohdnaa
open Go.RowKit

theorem hrB_mk {V : Nat} {l : List Cl} (h1 : 1 ≤ V) (h2 : V ≤ 16) (h3 : l.length ≤ 60) (h4 : l.all (clB V) = true) : hrB V l = true := by
  unfold hrB cntB
  rw [h4]
  simp
  omega
/-- Solve: the least model of all, or none. -/
theorem sv_cases {V : Nat} {l : List Cl} {a : List Int} {is : Bool} {n : Int} (hr : hrB V l = true) (ht : TellJ l (zerosJ V) (((V : Int) - 1) * mostD 0 l) a is n) :
    (is = true ∧ LeastJ l (zerosJ V) a ∧ a.length = V ∧ (∀ i, 0 ≤ a.getD i 0 ∧ a.getD i 0 ≤ ((V : Int) - 1) * mostD 0 l) ∧ natsB a = true) ∨ (is = false ∧ a = [] ∧ ∀ b, LeM (zerosJ V) b → ¬ ModJ l b) := by
  obtain ⟨_, _, _, v4⟩ := hrB_of hr
  have hlim := lim_bd hr
  have hR : RightJ (zerosJ V).length l := by rw [zerosJ_len]; exact RightJ.of v4
  have e : ((V : Int) - 1) * mostD 0 l = 0 + (((zerosJ V).length : Int) - 1) * mostD 0 l := by rw [zerosJ_len]; omega
  rw [e] at ht
  rcases ht.cases hR (fun i _ => by rw [zerosJ_at]; omega) with ⟨h1, h2, h3⟩ | h
  · rw [← e] at h3
    have hl : a.length = V := by rw [← h2.1.1, zerosJ_len]
    have hb : ∀ i, 0 ≤ a.getD i 0 ∧ a.getD i 0 ≤ ((V : Int) - 1) * mostD 0 l := fun i => by
      have h0 := h2.1.2 i
      rw [zerosJ_at] at h0
      refine ⟨h0, ?_⟩
      by_cases hi : i < a.length
      · exact h3 i hi
      · rw [getD_out (by omega)]; exact hlim.1
    exact .inl ⟨h1, h2, hl, hb, nats_of fun i => ⟨(hb i).1, by have := (hb i).2; omega⟩⟩
  · exact .inr h
end Go.Proofs.Ytnfmcenedohdnaa
