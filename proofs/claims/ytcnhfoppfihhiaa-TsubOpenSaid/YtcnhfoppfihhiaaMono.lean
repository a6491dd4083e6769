/- A level that may be so deep may be deeper. -/
import Derived.Test.YtcnhfoppfihhiaaSpec
namespace Go.Proofs.Ytcnhfoppfihhiaa
open Go

theorem rNode_mono {p m k n : Int} {len : Nat} {d d' : Int} {sub sub' : Bool} (h : rNode p m k n len d sub = true) (hd : d ≤ d') (hs : sub = true → sub' = true) : rNode p m k n len d' sub' = true := by
  unfold rNode at h ⊢
  have h1 : ¬ d < 1 := by intro hh; rw [if_pos hh] at h; cases h
  rw [if_neg h1] at h
  rw [if_neg (by omega)]
  split at h
  · cases h
  · rename_i h2
    rw [if_neg h2]
    split at h
    · rename_i h5; rw [if_pos h5]; exact h
    · rename_i h5
      rw [if_neg h5]
      split at h
      · rename_i h6; rw [if_pos h6]; exact h
      · rename_i h6
        rw [if_neg h6]
        rw [Bool.and_eq_true] at h ⊢
        exact ⟨hs h.1, h.2⟩
theorem rAll_mono {p m : Int} : ∀ {f : Fo} {d d' : Int}, rAll p m f d = true → d ≤ d' → rAll p m f d' = true
  | .nil, _, _, _, _ => rfl
  | .cons k n ks r, d, d', h, hd => by
    unfold rAll at h ⊢
    rw [Bool.and_eq_true] at h ⊢
    exact ⟨rNode_mono h.1 hd (fun h => rAll_mono h (by omega)), rAll_mono h.2 hd⟩
end Go.Proofs.Ytcnhfoppfihhiaa
