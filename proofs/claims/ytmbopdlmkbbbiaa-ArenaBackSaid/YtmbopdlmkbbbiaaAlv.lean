/- The levels of an arena's nodes, as plain data: what the level of a node is, how deep it is and how many levels it has; how the program counts them. No condition but those that stand in each statement. -/
import Derived.Test.YtmbopdlmkbbbiaaAspec2
import Derived.Test.YtmbopdlmkbbbiaaAkids
namespace Go.Proofs.Ytmbopdlmkbbbiaa
open Go

/-- The Kids of a node's level, by the levels of the nodes ahead of it. -/
def kidsFo (d : List Fo) (x : Nd) : Fo := if nK x.k = 0 then .nil else if nK x.k = 1 then d.getD x.a.toNat .nil else (d.getD x.a.toNat .nil).app (d.getD x.b.toNat .nil)
def trs : List Fo → List Nd → List Fo
  | d, [] => d
  | d, x :: r => trs (d ++ [.cons x.k x.n (kidsFo d x) .nil]) r
/-- The level of the node i, as a forest of one. -/
def tr (ns : List Nd) (i : Nat) : Fo := (trs [] ns).getD i .nil
/-- Its Kids. -/
def kd (ns : List Nd) (x : Nd) : Fo := kidsFo (trs [] ns) x

theorem trs_pre : ∀ (r : List Nd) (d : List Fo) (i : Nat), i < d.length → (trs d r).getD i .nil = d.getD i .nil
  | [], d, i, _ => rfl
  | x :: r, d, i, h => by
    rw [trs, trs_pre r _ i (by simp; omega)]
    simp [List.getD_eq_getElem?_getD, List.getElem?_append_left h]
theorem kidsFo_pre {r : List Nd} {d : List Fo} {x : Nd} (hf : fitsN x d.length = true) : kidsFo (trs d r) x = kidsFo d x := by
  have h := hf
  simp only [fitsN, Bool.and_eq_true, kidB] at h
  obtain ⟨_, _, ha, hb⟩ := h
  have hk := nK_eq x.k
  unfold kidsFo
  split
  · rfl
  · rename_i h0
    have h1 : (0 : Int) < nKids x.k := by omega
    rw [decide_eq_true h1, if_pos rfl, Bool.and_eq_true, decide_eq_true_eq, decide_eq_true_eq] at ha
    rw [trs_pre r d x.a.toNat (by omega)]
    split
    · rfl
    · rename_i h2
      have h3 : (1 : Int) < nKids x.k := by omega
      rw [decide_eq_true h3, if_pos rfl, Bool.and_eq_true, decide_eq_true_eq, decide_eq_true_eq] at hb
      rw [trs_pre r d x.b.toNat (by omega)]
theorem trs_at : ∀ (r : List Nd) (d : List Fo) (done : List Nd) (i : Nat) (x : Nd), done.length = d.length → goodN done r = true → r[i]? = some x →
    (trs d r).getD (d.length + i) .nil = .cons x.k x.n (kidsFo (trs d r) x) .nil ∧ fitsN x (d.length + i : Nat) = true
  | [], d, done, i, x, _, _, h => by simp at h
  | y :: r, d, done, 0, x, hd, hg, h => by
    simp at h
    subst h
    rw [goodN_cons] at hg
    simp only [Bool.and_eq_true] at hg
    have hf : fitsN y (d.length : Nat) = true := by rw [← hd]; exact hg.1.2
    refine ⟨?_, hf⟩
    rw [kidsFo_pre hf, trs, trs_pre r _ _ (by simp)]
    simp [List.getD_eq_getElem?_getD]
  | y :: r, d, done, i + 1, x, hd, hg, h => by
    rw [goodN_cons] at hg
    simp only [Bool.and_eq_true] at hg
    have := trs_at r (d ++ [.cons y.k y.n (kidsFo d y) .nil]) (done ++ [y]) i x (by simp [hd]) hg.2 (by simpa using h)
    rw [trs]
    simp only [List.length_append, List.length_cons, List.length_nil] at this
    rw [show d.length + (0 + 1) + i = d.length + (i + 1) by omega] at this
    exact this
theorem good_of {ns : List Nd} (h : rightN ns = true) : goodN [] ns = true ∧ ns.length ≤ 1000 := by
  unfold rightN at h
  rw [Bool.and_eq_true, decide_eq_true_eq] at h
  exact ⟨h.2, h.1⟩
/-- The level of a node. -/
theorem tr_at {ns : List Nd} (h : rightN ns = true) {i : Nat} {x : Nd} (hx : ns[i]? = some x) : tr ns i = .cons x.k x.n (kd ns x) .nil ∧ fitsN x (i : Nat) = true := by
  have := trs_at ns [] [] i x rfl (good_of h).1 hx
  simpa [tr, kd] using this
theorem fits_a {x : Nd} {i : Nat} (h : fitsN x i = true) (h1 : 1 ≤ nK x.k) : 0 ≤ x.a ∧ x.a < i := by
  have hk := nK_eq x.k
  simp only [fitsN, Bool.and_eq_true, kidB] at h
  have := h.2.2.1
  rw [decide_eq_true (show (0 : Int) < nKids x.k by omega), if_pos rfl, Bool.and_eq_true, decide_eq_true_eq, decide_eq_true_eq] at this
  exact this
theorem fits_b {x : Nd} {i : Nat} (h : fitsN x i = true) (h1 : 2 ≤ nK x.k) : 0 ≤ x.b ∧ x.b < i := by
  have hk := nK_eq x.k
  simp only [fitsN, Bool.and_eq_true, kidB] at h
  have := h.2.2.2
  rw [decide_eq_true (show (1 : Int) < nKids x.k by omega), if_pos rfl, Bool.and_eq_true, decide_eq_true_eq, decide_eq_true_eq] at this
  exact this
theorem nK_cases (k : Int) : nK k = 0 ∨ nK k = 1 ∨ nK k = 2 := by
  unfold nK
  rcases nKids_cases k with h | h | h <;> rw [h] <;> simp
theorem fits_kidsOf {x : Nd} {i : Int} (h : fitsN x i = true) : kidsOf x.k = nK x.k := by
  have hk := nK_eq x.k
  rw [hk]
  simp only [fitsN, Bool.and_eq_true, decide_eq_true_eq] at h
  have h1 := h.1
  have h2 := h.2.1
  unfold nNames at h2
  unfold kidsOf nKids
  by_cases c1 : x.k = 1
  · simp [c1]
  by_cases c2 : x.k = 2
  · simp [c2]
  by_cases c3 : x.k = 3
  · simp [c3]
  by_cases c4 : x.k = 4
  · simp [c4]
  by_cases c5 : x.k = 5
  · simp [c5]
  by_cases c6 : x.k = 6
  · simp [c6]
  rw [if_neg (by omega), if_neg c5, if_neg c6] at h2
  omega
theorem kd_0 {ns : List Nd} {x : Nd} (h : nK x.k = 0) : kd ns x = .nil := if_pos h
theorem kd_1 {ns : List Nd} {x : Nd} (h : nK x.k = 1) : kd ns x = tr ns x.a.toNat := by unfold kd kidsFo; rw [if_neg (by omega), if_pos h]; rfl
theorem kd_2 {ns : List Nd} {x : Nd} (h : nK x.k = 2) : kd ns x = (tr ns x.a.toNat).app (tr ns x.b.toNat) := by unfold kd kidsFo; rw [if_neg (by omega), if_neg (by omega)]; rfl
theorem tr_len {ns : List Nd} (h : rightN ns = true) {i : Nat} (hi : i < ns.length) : (tr ns i).len = 1 := by
  rw [(tr_at h (List.getElem?_eq_getElem hi)).1]; rfl
theorem kd_len {ns : List Nd} (h : rightN ns = true) {i : Nat} {x : Nd} (hx : ns[i]? = some x) : (kd ns x).len = nK x.k := by
  have hf := (tr_at h hx).2
  have hi := (List.getElem?_eq_some_iff.1 hx).1
  rcases nK_cases x.k with h0 | h0 | h0
  · rw [kd_0 h0, h0]; rfl
  · have := fits_a hf (by omega)
    rw [kd_1 h0, h0, tr_len h (by omega)]
  · have ha := fits_a hf (by omega)
    have hb := fits_b hf (by omega)
    rw [kd_2 h0, h0, Fo.app_len, tr_len h (by omega), tr_len h (by omega)]

/-- How deep a forest is. -/
def dF : Fo → Nat
  | .nil => 0
  | .cons _ _ ks r => max (dF ks + 1) (dF r)
/-- The program's count: how many levels there may be still, or none if it is too deep, or there are too many. -/
def cF : Fo → Nat → Nat → Option Nat
  | .nil, _, l => some l
  | .cons _ _ ks r, d, l => match (if d = 0 ∨ l = 0 then none else cF ks (d - 1) (l - 1)) with
    | none => none
    | some l' => cF r d l'
theorem cF_eq : ∀ (f : Fo) (d l : Nat), cF f d l = if dF f ≤ d ∧ f.size ≤ l then some (l - f.size) else none
  | .nil, d, l => by simp [cF, dF, Fo.size]
  | .cons k n ks r, d, l => by
    unfold cF
    by_cases h0 : d = 0 ∨ l = 0
    · rw [if_pos h0, if_neg (by simp only [dF, Fo.size]; omega)]
    · rw [if_neg h0, cF_eq ks (d - 1) (l - 1)]
      by_cases h1 : dF ks ≤ d - 1 ∧ ks.size ≤ l - 1
      · rw [if_pos h1]
        show cF r d _ = _
        rw [cF_eq r d _]
        by_cases h2 : dF r ≤ d ∧ r.size ≤ l - 1 - ks.size
        · rw [if_pos h2, if_pos (by simp only [dF, Fo.size]; omega)]
          simp only [Fo.size]; congr 1; omega
        · rw [if_neg h2, if_neg (by simp only [dF, Fo.size]; omega)]
      · rw [if_neg h1, if_neg (by simp only [dF, Fo.size]; omega)]
theorem cF_cons (k n : Int) (ks r : Fo) (d l : Nat) : cF (.cons k n ks r) d l = match (if d = 0 ∨ l = 0 then none else cF ks (d - 1) (l - 1)) with
    | none => none
    | some l' => cF r d l' := by rw [cF]
theorem cF_app : ∀ (f g : Fo) (d l : Nat), cF (f.app g) d l = match cF f d l with | none => none | some l' => cF g d l'
  | .nil, g, d, l => rfl
  | .cons k n ks r, g, d, l => by
    rw [Fo.app, cF_cons, cF_cons]
    cases (if d = 0 ∨ l = 0 then none else cF ks (d - 1) (l - 1)) with
    | none => rfl
    | some l' => exact cF_app r g d l'
theorem cF_tr {k n : Int} {ks : Fo} {d l : Nat} (h : ¬ (d = 0 ∨ l = 0)) : cF (.cons k n ks .nil) d l = cF ks (d - 1) (l - 1) := by
  rw [cF_cons, if_neg h]
  cases cF ks (d - 1) (l - 1) <;> rfl
theorem cF_no {k n : Int} {ks : Fo} {d l : Nat} (h : d = 0 ∨ l = 0) : cF (.cons k n ks .nil) d l = none := by
  rw [cF_cons, if_pos h]
theorem dF_app : ∀ f g : Fo, dF (f.app g) = max (dF f) (dF g)
  | .nil, g => by simp [Fo.app, dF]
  | .cons _ _ ks r, g => by simp only [Fo.app, dF, dF_app r g]; omega
/-- What Get answers: an error, or none. -/
def getE (ns : List Nd) (i : Int) : Int := if rightN ns = true ∧ 0 ≤ i ∧ i < ns.length then (if dF (tr ns i.toNat) ≤ 12 ∧ (tr ns i.toNat).size ≤ 100 then 0 else 2) else 1
end Go.Proofs.Ytmbopdlmkbbbiaa
