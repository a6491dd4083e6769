/- More of what the document says of arenas, as plain functions: levels that are put one behind the other; levels of at most two kids each. No condition but those that stand in each statement. -/
import Derived.Test.YtmbopdlmkbbbiaaAspec
import Derived.Test.YtmbopdlmkbbbiaaStack
namespace Go.Proofs.Ytmbopdlmkbbbiaa
open Go

theorem putAll_app : ∀ (f g : Fo) (ns : List Nd), putAll (f.app g) ns = ((putAll g (putAll f ns).1).1, (putAll f ns).2 ++ (putAll g (putAll f ns).1).2)
  | .nil, g, ns => by simp [Fo.app, putAll]
  | .cons k n ks r, g, ns => by
    rw [Fo.app, putAll_cons, putAll_cons, putAll_app r g]
    simp
theorem putAll_one (f : Fo) (k n : Int) (ks : Fo) (ns : List Nd) : putAll (f.app (.cons k n ks .nil)) ns = ((putL k n ks (putAll f ns).1).1, (putAll f ns).2 ++ [(putL k n ks (putAll f ns).1).2]) := by
  rw [putAll_app, putAll_cons]
  simp [putAll]
theorem foApp_nil : ∀ f : Fo, f.app .nil = f
  | .nil => rfl
  | .cons k n ks r => by rw [Fo.app, foApp_nil r]
theorem foApp_assoc : ∀ f g h : Fo, (f.app g).app h = f.app (g.app h)
  | .nil, g, h => rfl
  | .cons k n ks r, g, h => by simp only [Fo.app, foApp_assoc r g h]
/-- All levels have at most two kids. -/
def W2 : Fo → Prop
  | .nil => True
  | .cons _ _ ks r => ks.len ≤ 2 ∧ W2 ks ∧ W2 r
theorem W2.app : ∀ {f g : Fo}, W2 (f.app g) → W2 f ∧ W2 g
  | .nil, _, h => ⟨trivial, h⟩
  | .cons .., _, h => ⟨⟨h.1, h.2.1, (W2.app h.2.2).1⟩, (W2.app h.2.2).2⟩
theorem kidsOf_le (k : Int) : kidsOf k ≤ 2 := by
  unfold kidsOf
  split
  · omega
  · split
    · omega
    · split <;> omega
theorem w2_node {p m k n : Int} {len : Nat} {d : Int} {sub : Bool} (h : rNode p m k n len d sub = true) : len ≤ 2 ∧ (0 < len → sub = true) := by
  have hk := kidsOf_le k
  unfold rNode at h
  by_cases h1 : d < 1
  · rw [if_pos h1] at h; cases h
  rw [if_neg h1] at h
  by_cases h2 : (len : Int) = kidsOf k
  · refine ⟨by omega, fun hl => ?_⟩
    rw [if_neg (by simpa using h2)] at h
    by_cases h5 : k = 5
    · subst h5; simp [kidsOf] at h2; omega
    · by_cases h6 : k = 6
      · subst h6; simp [kidsOf] at h2; omega
      · rw [if_neg h5, if_neg h6, Bool.and_eq_true] at h
        exact h.1
  · rw [if_pos (by simpa using h2)] at h; cases h
theorem w2_all {p m : Int} : ∀ (F : Fo) (d : Int), rAll p m F d = true → W2 F
  | .nil, _, _ => trivial
  | .cons k n ks r, d, h => by
    unfold rAll at h
    rw [Bool.and_eq_true] at h
    obtain ⟨h1, h2⟩ := w2_node h.1
    refine ⟨h1, ?_, w2_all r d h.2⟩
    rcases Nat.eq_zero_or_pos ks.len with h0 | h0
    · rw [Fo.len_zero h0]; trivial
    · exact w2_all ks _ (h2 h0)
/-- What is known of a right level. -/
theorem right_w2 {p m k n : Int} {F : Fo} (h : rightB p m k n F = true) : F.len ≤ 2 ∧ W2 F ∧ F.size + 1 ≤ 100 := by
  unfold rightB at h
  rw [Bool.and_eq_true, Bool.and_eq_true] at h
  obtain ⟨_, h2, h3⟩ := h
  obtain ⟨g1, g2⟩ := w2_node h3
  refine ⟨g1, ?_, by simpa using h2⟩
  rcases Nat.eq_zero_or_pos F.len with h0 | h0
  · rw [Fo.len_zero h0]; trivial
  · exact w2_all F _ (g2 h0)
end Go.Proofs.Ytmbopdlmkbbbiaa
