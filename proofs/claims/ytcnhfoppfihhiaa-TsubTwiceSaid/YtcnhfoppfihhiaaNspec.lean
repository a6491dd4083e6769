/- The numbers of a kind in a level, as plain functions of forests. No condition but those that stand in each statement. -/
import Derived.Test.YtcnhfoppfihhiaaSspec
namespace Go.Proofs.Ytcnhfoppfihhiaa
open Go

/-- A number behind others, if it isn't there. -/
def ins (n : Int) (zs : List Int) : List Int := if n ∈ zs then zs else zs ++ [n]
def nmF (K : Int) : Fo → List Int → List Int
  | .nil, zs => zs
  | .cons k n ks r, zs => nmF K r (if k = K then ins n zs else nmF K ks zs)
def nm1 (K k n : Int) (f : Fo) (zs : List Int) : List Int := if k = K then ins n zs else nmF K f zs
theorem nmF_cons (K k n : Int) (ks r : Fo) (zs : List Int) : nmF K (.cons k n ks r) zs = nmF K r (nm1 K k n ks zs) := rfl
theorem nm1_y (K n : Int) (f : Fo) (zs : List Int) : nm1 K K n f zs = ins n zs := if_pos rfl
theorem nm1_n {K k : Int} (n : Int) (f : Fo) (zs : List Int) (h : k ≠ K) : nm1 K k n f zs = nmF K f zs := if_neg h
theorem ins_len (n : Int) (zs : List Int) : (ins n zs).length ≤ zs.length + 1 := by
  unfold ins; split
  · omega
  · simp
theorem nmF_len (K : Int) : ∀ (f : Fo) (zs : List Int), (nmF K f zs).length ≤ zs.length + f.size
  | .nil, _ => Nat.le_refl _
  | .cons k n ks r, zs => by
    have h1 := nmF_len K r (nm1 K k n ks zs)
    have h2 : (nm1 K k n ks zs).length ≤ zs.length + ks.size + 1 := by
      unfold nm1; split
      · have := ins_len n zs; omega
      · have := nmF_len K ks zs; omega
    rw [nmF_cons]
    simp only [Fo.size]
    omega
theorem nm1_len (K k n : Int) (f : Fo) (zs : List Int) : (nm1 K k n f zs).length ≤ zs.length + f.size + 1 := by
  unfold nm1; split
  · have := ins_len n zs; omega
  · have := nmF_len K f zs; omega
/-- All of them, from left to right. -/
def numF (K : Int) : Fo → List Int
  | .nil => []
  | .cons k n ks r => (if k = K then [n] else numF K ks) ++ numF K r
def num1 (K k n : Int) (f : Fo) : List Int := if k = K then [n] else numF K f
def onceL : List Int → List Int → List Int
  | [], zs => zs
  | x :: xs, zs => onceL xs (ins x zs)
theorem onceL_app : ∀ (xs ys zs : List Int), onceL (xs ++ ys) zs = onceL ys (onceL xs zs)
  | [], _, _ => rfl
  | x :: xs, ys, zs => onceL_app xs ys (ins x zs)
theorem nmF_once (K : Int) : ∀ (f : Fo) (zs : List Int), nmF K f zs = onceL (numF K f) zs
  | .nil, _ => rfl
  | .cons k n ks r, zs => by
    rw [nmF_cons]
    show _ = onceL ((if k = K then [n] else numF K ks) ++ numF K r) zs
    rw [onceL_app, nmF_once K r]
    unfold nm1
    by_cases h : k = K
    · rw [if_pos h, if_pos h]; rfl
    · rw [if_neg h, if_neg h, nmF_once K ks]
theorem nm1_once (K k n : Int) (f : Fo) (zs : List Int) : nm1 K k n f zs = onceL (num1 K k n f) zs := by
  unfold nm1 num1
  by_cases h : k = K
  · rw [if_pos h, if_pos h]; rfl
  · rw [if_neg h, if_neg h, nmF_once K f]
end Go.Proofs.Ytcnhfoppfihhiaa
