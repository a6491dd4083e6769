/- Twf. No condition but those that stand in each statement. -/
import Derived.Test.YtnfhpombnbpdcaaGreatZQ17
namespace Go.Proofs.YtnfhpombnbpdcaaGreat
open Go
def wfF (N : Int) : Ft → Prop
  | .nil => True
  | .cons k n ls ks r => (1 ≤ k ∧ k ≤ 7 ∧ (ks.len : Int) = tkids k) ∧ (k = 1 → ls = .nil ∧ 0 ≤ n ∧ n ≤ N) ∧ wfF N ks ∧ wfF N r
def wf1 (N k n : Int) (ls : Fo) (ks : Ft) : Prop := (1 ≤ k ∧ k ≤ 7 ∧ (ks.len : Int) = tkids k) ∧ (k = 1 → ls = .nil ∧ 0 ≤ n ∧ n ≤ N) ∧ wfF N ks
theorem wf_of_fits {p m v k n N : Int} {ls : Fo} {ks : Ft} (h : tfitsB p m v k n ls ks.len = true) (hv : v ≤ N + 1) : (1 ≤ k ∧ k ≤ 7 ∧ (ks.len : Int) = tkids k) ∧ (k = 1 → ls = .nil ∧ 0 ≤ n ∧ n ≤ N) := by
  have h1 := tfits_len h
  have h2 := tkids_cases k
  refine ⟨by omega, ?_⟩
  rintro rfl
  obtain ⟨a, b, c, d⟩ := tfits_var h
  exact ⟨b, c, by omega⟩
theorem bindK_le (k : Int) (i : Nat) : 0 ≤ bindK k i ∧ bindK k i ≤ 1 := by unfold bindK; split <;> omega
theorem wf_of_all {p m N : Int} : ∀ {f : Ft} {k0 : Int} {i : Nat} {v d : Int}, tAll p m f k0 i v d = true → v + d ≤ N + 1 → wfF N f
  | .nil, _, _, _, _, _, _ => trivial
  | .cons k n ls ks r, k0, i, v, d, h, hN => by
    unfold tAll at h
    simp only [Bool.and_eq_true, decide_eq_true_eq] at h
    have hb := bindK_le k0 i
    obtain ⟨h1, h2⟩ := wf_of_fits (N := N) h.1.2.1 (by omega)
    exact ⟨h1, h2, wf_of_all h.1.2.2 (by omega), wf_of_all h.2 hN⟩
theorem wf_of_sh {k n : Int} {ls : Fo} {ks : Ft} (h : shB k n ls ks = true) : wf1 1030 k n ls ks := by
  obtain ⟨h1, h2, h3⟩ := shB_parts h
  obtain ⟨a, b⟩ := wf_of_fits (N := 1030) h2 (by omega)
  exact ⟨a, b, wf_of_all h3 (by omega)⟩
theorem wfF_app {N : Int} : ∀ {f g : Ft}, wfF N (f.app g) ↔ wfF N f ∧ wfF N g
  | .nil, g => by simp [Ft.app, wfF]
  | .cons _ _ _ ks r, g => by simp only [Ft.app, wfF, wfF_app (f := r)]; constructor <;> (intro h; simp_all)
theorem wf1_leaf {N n : Int} {ls : Fo} {ks : Ft} (h : wf1 N 1 n ls ks) : ks = .nil ∧ ls = .nil ∧ 0 ≤ n ∧ n ≤ N := by
  obtain ⟨⟨_, _, h3⟩, h4, _⟩ := h
  obtain ⟨a, b, c⟩ := h4 rfl
  refine ⟨Ft.len_zero ?_, a, b, c⟩
  simp [tkids] at h3
  omega
theorem wfF_parts {N k n : Int} {ls : Fo} {ks r : Ft} (h : wfF N (.cons k n ls ks r)) : wf1 N k n ls ks ∧ wfF N r := ⟨⟨h.1, h.2.1, h.2.2.1⟩, h.2.2.2⟩
end Go.Proofs.YtnfhpombnbpdcaaGreat
