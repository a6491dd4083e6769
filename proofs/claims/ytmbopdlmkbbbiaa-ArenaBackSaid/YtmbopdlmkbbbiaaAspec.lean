/- What the document says of arenas, as plain functions of lists of nodes: which are right, what Put adds, and how much. No condition but those that stand in each statement. -/
import Derived.Test.YtmbopdlmkbbbiaaSpec
import Derived.Test.YtmbopdlmkbbbiaaMono
namespace Go.Proofs.Ytmbopdlmkbbbiaa
open Go

/-- A node. -/
structure Nd where
  k : Int
  n : Int
  a : Int
  b : Int
  deriving DecidableEq

def nKids (k : Int) : Int := if k = 2 then 1 else if k = 3 ∨ k = 4 then 2 else 0
def nNames (k : Int) : Int := if k = 1 ∨ k = 2 ∨ k = 3 ∨ k = 4 then 1 else if k = 5 then 5 else if k = 6 then 10 else 0
def kidB (kid : Int) (has : Bool) (own : Int) : Bool := if has then decide (0 ≤ kid) && decide (kid < own) else kid == 0
def fitsN (x : Nd) (i : Int) : Bool := decide (0 ≤ x.n) && (decide (x.n < nNames x.k) && (kidB x.a (decide (0 < nKids x.k)) i && kidB x.b (decide (1 < nKids x.k)) i))
/-- The nodes behind those that are known already are such as may be. -/
def goodN : List Nd → List Nd → Bool
  | _, [] => true
  | done, x :: r => !done.contains x && fitsN x done.length && goodN (done ++ [x]) r
def rightN (ns : List Nd) : Bool := decide (ns.length ≤ 1000) && goodN [] ns

theorem goodN_cons (done : List Nd) (x : Nd) (r : List Nd) : goodN done (x :: r) = (!done.contains x && fitsN x done.length && goodN (done ++ [x]) r) := rfl
theorem goodN_app : ∀ (a b d : List Nd), goodN d (a ++ b) = (goodN d a && goodN (d ++ a) b)
  | [], b, d => by simp [goodN]
  | x :: a, b, d => by
    show goodN d (x :: (a ++ b)) = _
    rw [goodN_cons, goodN_cons, goodN_app a b (d ++ [x])]
    simp [Bool.and_assoc]

/-- The place of a node, or a place behind. -/
def addN (ns : List Nd) (x : Nd) : List Nd × Nat := if x ∈ ns then (ns, ns.idxOf x) else (ns ++ [x], ns.length)
/-- What is added for the levels of a forest, and their places. -/
def putAll : Fo → List Nd → List Nd × List Nat
  | .nil, ns => (ns, [])
  | .cons k n ks r, ns =>
    let p := putAll ks ns
    let q := addN p.1 ⟨k, n, (p.2.getD 0 0 : Nat), (p.2.getD 1 0 : Nat)⟩
    let s := putAll r q.1
    (s.1, q.2 :: s.2)
def nodeOf (k n : Int) (p : List Nd × List Nat) : Nd := ⟨k, n, (p.2.getD 0 0 : Nat), (p.2.getD 1 0 : Nat)⟩
def putL (k n : Int) (ks : Fo) (ns : List Nd) : List Nd × Nat := addN (putAll ks ns).1 (nodeOf k n (putAll ks ns))
theorem putAll_cons (k n : Int) (ks r : Fo) (ns : List Nd) : putAll (.cons k n ks r) ns = ((putAll r (putL k n ks ns).1).1, (putL k n ks ns).2 :: (putAll r (putL k n ks ns).1).2) := rfl

theorem addN_len (ns : List Nd) (x : Nd) : ns.length ≤ (addN ns x).1.length ∧ (addN ns x).1.length ≤ ns.length + 1 ∧ (addN ns x).2 < (addN ns x).1.length := by
  unfold addN
  split
  · rename_i h
    exact ⟨Nat.le_refl _, Nat.le_succ _, List.idxOf_lt_length_of_mem h⟩
  · simp
theorem putAll_len : ∀ (f : Fo) (ns : List Nd), ns.length ≤ (putAll f ns).1.length ∧ (putAll f ns).1.length ≤ ns.length + f.size ∧ (putAll f ns).2.length = f.len
  | .nil, ns => ⟨Nat.le_refl _, Nat.le_refl _, rfl⟩
  | .cons k n ks r, ns => by
    have h1 := putAll_len ks ns
    have h2 := addN_len (putAll ks ns).1 (nodeOf k n (putAll ks ns))
    have h3 := putAll_len r (putL k n ks ns).1
    have e : (putL k n ks ns).1.length = (addN (putAll ks ns).1 (nodeOf k n (putAll ks ns))).1.length := rfl
    rw [putAll_cons]
    simp only [Fo.size, Fo.len, List.length_cons]
    omega
theorem putL_len (k n : Int) (ks : Fo) (ns : List Nd) : ns.length ≤ (putL k n ks ns).1.length ∧ (putL k n ks ns).1.length ≤ ns.length + ks.size + 1 ∧ (putL k n ks ns).2 < (putL k n ks ns).1.length := by
  have h1 := putAll_len ks ns
  have h2 := addN_len (putAll ks ns).1 (nodeOf k n (putAll ks ns))
  unfold putL
  omega
/-- What Put of an arena and a level answers: nodes, a place, an error. -/
def putV (ns : List Nd) (k n : Int) (ks : Fo) : List Nd × Nat × Int :=
  if rightN ns = true ∧ rightB 5 10 k n ks = true then
    if (putL k n ks ns).1.length ≤ 1000 then ((putL k n ks ns).1, (putL k n ks ns).2, 0) else (ns, 0, 2)
  else (ns, 0, 1)
end Go.Proofs.Ytmbopdlmkbbbiaa
