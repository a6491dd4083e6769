/- Lifting and putting in, as plain mathematics: one behind the other; which terms stay well-formed. -/
import Derived.Test.YtcnhfoppfihhiaaTlf
import Derived.Test.YtcnhfoppfihhiaaMono
namespace Go.Proofs.Ytcnhfoppfihhiaa
open Go

def Tm.rep (g : Int → Int → Tm) (T : Tm) (b : Int) : Tm := rep1 g T.k T.n T.ls T.ks b
theorem rep_V (g : Int → Int → Tm) (n b : Int) : (tV n).rep g b = g n b := by
  show (if (1 : Int) = 1 then g n b else (⟨1, n, .nil, repF g .nil 1 0 b⟩ : Tm)) = g n b
  exact if_pos rfl
theorem rep_is (g : Int → Int → Tm) (k n : Int) (ls : Fo) (ks : Ft) (b : Int) : (⟨k, n, ls, ks⟩ : Tm).rep g b = if k = 1 then g n b else ⟨k, n, ls, repF g ks k 0 b⟩ := rfl
theorem gL_ge {fr by' n b : Int} (h : fr + b ≤ n) : gL fr by' n b = tV (n + by') := by unfold gL; rw [if_pos h]
theorem gL_lt {fr by' n b : Int} (h : ¬ fr + b ≤ n) : gL fr by' n b = tV n := by unfold gL; rw [if_neg h]
theorem gO_eq {U : Tm} {n b : Int} (h : n = b) : gO U n b = U.rep (gL 0 b) 0 := by unfold gO; rw [if_pos h]; rfl
theorem gO_gt {U : Tm} {n b : Int} (h : b < n) : gO U n b = tV (n - 1) := by unfold gO; rw [if_neg (by omega), if_pos h]
theorem gO_lt {U : Tm} {n b : Int} (h : n < b) : gO U n b = tV n := by unfold gO; rw [if_neg (by omega), if_neg (by omega)]
theorem repF_to (g : Int → Int → Tm) (T : Tm) (r : Ft) (k0 : Int) (i : Nat) (b : Int) : repF g (T.to r) k0 i b = (T.rep g (b + bindK k0 i)).to (repF g r k0 (i + 1) b) := rfl
theorem repF_comp (g1 g2 : Int → Int → Tm) (c : Int) : ∀ (f : Ft) (k0 : Int) (i : Nat) (b : Int), repF g2 (repF g1 f k0 i b) k0 i (b + c) = repF (fun n x => (g1 n x).rep g2 (x + c)) f k0 i b
  | .nil, _, _, _ => rfl
  | .cons k n ls ks r, k0, i, b => by
    rw [repF_cons, repF_to, repF_cons, repF_comp g1 g2 c r]
    congr 1
    unfold rep1 Tm.rep
    by_cases hk : k = 1
    · rw [if_pos hk, if_pos hk, show b + c + bindK k0 i = b + bindK k0 i + c by omega]
    · rw [if_neg hk, if_neg hk]
      unfold rep1
      rw [if_neg hk, show b + c + bindK k0 i = b + bindK k0 i + c by omega, repF_comp g1 g2 c ks]
      rfl
theorem rep_comp (g1 g2 : Int → Int → Tm) (c : Int) (T : Tm) (b : Int) : (T.rep g1 b).rep g2 (b + c) = T.rep (fun n x => (g1 n x).rep g2 (x + c)) b := by
  obtain ⟨k, n, ls, ks⟩ := T
  have e1 := rep_is g1 k n ls ks b
  have e2 := rep_is (fun n x => (g1 n x).rep g2 (x + c)) k n ls ks b
  rw [e1, e2]
  by_cases hk : k = 1
  · rw [if_pos hk, if_pos hk]
  · have e3 := rep_is g2 k n ls (repF g1 ks k 0 b) (b + c)
    rw [if_neg hk, if_neg hk, e3, if_neg hk, repF_comp]
theorem repF_ext {g g' : Int → Int → Tm} {b0 : Int} (h : ∀ n x, b0 ≤ x → g n x = g' n x) : ∀ (f : Ft) (k0 : Int) (i : Nat) (b : Int), b0 ≤ b → repF g f k0 i b = repF g' f k0 i b
  | .nil, _, _, _, _ => rfl
  | .cons k n ls ks r, k0, i, b, hb => by
    have h1 := bindK_le k0 i
    rw [repF_cons, repF_cons, repF_ext h r k0 (i + 1) b hb]
    congr 1
    unfold rep1
    by_cases hk : k = 1
    · rw [if_pos hk, if_pos hk, h n _ (by omega)]
    · rw [if_neg hk, if_neg hk, repF_ext h ks k 0 _ (by omega)]
theorem rep_ext {g g' : Int → Int → Tm} {b : Int} (h : ∀ n x, b ≤ x → g n x = g' n x) (T : Tm) : T.rep g b = T.rep g' b := by
  unfold Tm.rep rep1
  by_cases hk : T.k = 1
  · rw [if_pos hk, if_pos hk, h _ _ (by omega)]
  · rw [if_neg hk, if_neg hk, repF_ext h _ _ _ _ (by omega)]
theorem repF_zero {N fr : Int} : ∀ (f : Ft) (k0 : Int) (i : Nat) (b : Int), wfF N f → repF (gL fr 0) f k0 i b = f
  | .nil, _, _, _, _ => rfl
  | .cons k n ls ks r, k0, i, b, h => by
    obtain ⟨h1, h2⟩ := wfF_parts h
    rw [repF_cons, repF_zero r k0 (i + 1) b h2]
    unfold rep1
    by_cases hk : k = 1
    · subst hk
      obtain ⟨e1, e2, _, _⟩ := wf1_leaf h1
      subst e1 e2
      rw [if_pos rfl]
      unfold gL tV
      simp [Tm.to]
    · rw [if_neg hk, repF_zero ks k 0 _ h1.2.2]
      rfl
theorem rep_zero {N fr b : Int} {T : Tm} (h : wf1 N T.k T.n T.ls T.ks) : T.rep (gL fr 0) b = T := by
  obtain ⟨k, n, ls, ks⟩ := T
  unfold Tm.rep rep1
  by_cases hk : k = 1
  · simp only at hk h ⊢
    subst hk
    obtain ⟨e1, e2, _, _⟩ := wf1_leaf h
    subst e1 e2
    rw [if_pos rfl]
    unfold gL tV
    simp
  · simp only at hk h ⊢
    rw [if_neg hk, repF_zero ks k 0 _ h.2.2]

/-- Lift by two numbers is Lift by both. -/
theorem lift_lift {fr a b : Int} (ha : 0 ≤ a) (T : Tm) : (T.rep (gL fr a) 0).rep (gL fr b) 0 = T.rep (gL fr (a + b)) 0 := by
  have h := rep_comp (gL fr a) (gL fr b) 0 T 0
  rw [Int.add_zero] at h
  rw [h]
  refine rep_ext (fun n x hx => ?_) T
  rw [Int.add_zero]
  by_cases hc : fr + x ≤ n
  · rw [gL_ge hc, gL_ge hc, rep_V, gL_ge (by omega)]; congr 1; omega
  · rw [gL_lt hc, gL_lt hc, rep_V, gL_lt hc]
/-- Lift above what was lifted. -/
theorem lift_above {b c : Int} (hc : 0 ≤ c) (T : Tm) : (T.rep (gL 0 c) 0).rep (gL 0 b) c = T.rep (gL 0 (b + c)) 0 := by
  have h := rep_comp (gL 0 c) (gL 0 b) c T 0
  rw [Int.zero_add] at h
  rw [h]
  refine rep_ext (fun n x hx => ?_) T
  by_cases hn : 0 + x ≤ n
  · rw [gL_ge hn, gL_ge hn, rep_V, gL_ge (by omega)]; congr 1; omega
  · rw [gL_lt hn, gL_lt hn, rep_V, gL_lt (by omega)]
/-- Open takes one of what was lifted away. -/
theorem open_lifted {b : Int} (hb : 0 ≤ b) (w T : Tm) : (T.rep (gL 0 (b + 1)) 0).rep (gO w) b = T.rep (gL 0 b) 0 := by
  have h := rep_comp (gL 0 (b + 1)) (gO w) b T 0
  rw [Int.zero_add] at h
  rw [h]
  refine rep_ext (fun n x hx => ?_) T
  by_cases hn : 0 + x ≤ n
  · rw [gL_ge hn, gL_ge hn, rep_V, gO_gt (by omega)]; congr 1; omega
  · rw [gL_lt hn, gL_lt hn, rep_V, gO_lt (by omega)]
/-- OPEN UNDOES LIFT BY 1. -/
theorem open_lift {N : Int} {T : Tm} (u : Tm) (h : wf1 N T.k T.n T.ls T.ks) : (T.rep (gL 0 1) 0).rep (gO u) 0 = T := by
  have h1 := open_lifted (b := 0) (by omega) u T
  rw [Int.zero_add] at h1
  rw [h1, rep_zero h]
/-- Open of what was lifted as a whole. -/
theorem open_above {b : Int} (hb : 0 ≤ b) (v U : Tm) : (U.rep (gL 0 b) 0).rep (gO v) b = (U.rep (gO v) 0).rep (gL 0 b) 0 := by
  have h1 := rep_comp (gL 0 b) (gO v) b U 0
  have h2 := rep_comp (gO v) (gL 0 b) 0 U 0
  rw [Int.zero_add] at h1
  rw [Int.add_zero] at h2
  rw [h1, h2]
  refine rep_ext (fun n x hx => ?_) U
  rw [Int.add_zero]
  by_cases hn : n = x
  · rw [gL_ge (by omega), rep_V, gO_eq (by omega), gO_eq hn, lift_above hx, Int.add_comm b x]
  · by_cases hm : x < n
    · rw [gL_ge (by omega), rep_V, gO_gt (by omega), gO_gt hm, rep_V, gL_ge (by omega)]; congr 1; omega
    · rw [gL_lt (by omega), rep_V, gO_lt (by omega), gO_lt (by omega), rep_V, gL_lt (by omega)]
/-- THE ORDER OF TWO MAKES NO DIFFERENCE. -/
theorem open_open (u v t : Tm) : (t.rep (gO u) 0).rep (gO v) 0 = (t.rep (gO v) 1).rep (gO (u.rep (gO v) 0)) 0 := by
  have h1 := rep_comp (gO u) (gO v) 0 t 0
  have h2 := rep_comp (gO v) (gO (u.rep (gO v) 0)) (-1) t 1
  rw [Int.add_zero] at h1
  rw [show (1 : Int) + -1 = 0 by omega] at h2
  rw [h1, h2]
  -- the second one's binders are counted one more
  have sh : ∀ (g g' : Int → Int → Tm), (∀ n x, 0 ≤ x → g n x = g' n (x + 1)) → ∀ (f : Ft) (k0 : Int) (i : Nat) (b : Int), 0 ≤ b → repF g f k0 i b = repF g' f k0 i (b + 1) := by
    intro g g' h f
    induction f with
    | nil => intro _ _ _ _; rfl
    | cons k n ls ks r ihk ihr =>
      intro k0 i b hb
      have hbi := bindK_le k0 i
      rw [repF_cons, repF_cons, ihr k0 (i + 1) b hb]
      congr 1
      unfold rep1
      by_cases hk : k = 1
      · rw [if_pos hk, if_pos hk, h n _ (by omega), show b + 1 + bindK k0 i = b + bindK k0 i + 1 by omega]
      · rw [if_neg hk, if_neg hk, ihk k 0 _ (by omega), show b + 1 + bindK k0 i = b + bindK k0 i + 1 by omega]
  have key : ∀ n x, 0 ≤ x → (gO u n x).rep (gO v) (x + 0) = (gO v n (x + 1)).rep (gO (u.rep (gO v) 0)) (x + 1 + -1) := by
    intro n x hx
    rw [Int.add_zero, show x + 1 + -1 = x by omega]
    by_cases hn : n = x
    · rw [gO_eq hn, open_above hx, gO_lt (by omega), rep_V, gO_eq hn]
    · by_cases hm : x < n
      · rw [gO_gt hm, rep_V]
        by_cases hq : n = x + 1
        · rw [gO_eq (b := x) (by omega), gO_eq (b := x + 1) hq, open_lifted hx]
        · rw [gO_gt (by omega), gO_gt (by omega), rep_V, gO_gt (by omega)]
      · rw [gO_lt (by omega), rep_V, gO_lt (by omega), gO_lt (by omega), rep_V, gO_lt (by omega)]
  obtain ⟨k, n, ls, ks⟩ := t
  have e1 := rep_is (fun n x => (gO u n x).rep (gO v) (x + 0)) k n ls ks 0
  have e2 := rep_is (fun n x => (gO v n x).rep (gO (u.rep (gO v) 0)) (x + -1)) k n ls ks 1
  rw [e1, e2]
  by_cases hk : k = 1
  · rw [if_pos hk, if_pos hk]
    exact key _ 0 (by omega)
  · rw [if_neg hk, if_neg hk, sh (fun n x => (gO u n x).rep (gO v) (x + 0)) (fun n x => (gO v n x).rep (gO (u.rep (gO v) 0)) (x + -1)) key ks k 0 0 (by omega)]
    rfl

/-! ### Which terms stay well-formed -/
def okT (v d : Int) (T : Tm) : Prop := tOne 5 10 v d T.k T.n T.ls T.ks = true
theorem tlim_mono {v v' k : Int} (h : v ≤ v') : tlim v k ≤ tlim v' k := by unfold tlim; split <;> (try split) <;> omega
theorem tfits_mono {p m v v' k n : Int} {ls : Fo} {len : Nat} (h : tfitsB p m v k n ls len = true) (hv : v ≤ v') : tfitsB p m v' k n ls len = true := by
  unfold tfitsB at h ⊢
  simp only [Bool.and_eq_true, decide_eq_true_eq] at h ⊢
  have := tlim_mono (k := k) hv
  exact ⟨h.1, h.2.1, by omega, h.2.2.2.1, h.2.2.2.2.1, h.2.2.2.2.2⟩
theorem tAll_mono {p m : Int} : ∀ {f : Ft} {k0 : Int} {i : Nat} {v v' d d' : Int}, tAll p m f k0 i v d = true → v ≤ v' → d ≤ d' → tAll p m f k0 i v' d' = true
  | .nil, _, _, _, _, _, _, _, _, _ => rfl
  | .cons k n ls ks r, k0, i, v, v', d, d', h, hv, hd => by
    unfold tAll at h ⊢
    simp only [Bool.and_eq_true, decide_eq_true_eq] at h ⊢
    exact ⟨⟨by omega, tfits_mono h.1.2.1 (by omega), tAll_mono h.1.2.2 (by omega) (by omega)⟩, tAll_mono h.2 hv hd⟩
theorem okT.mono {v v' d d' : Int} {T : Tm} (h : okT v d T) (hv : v ≤ v') (hd : d ≤ d') : okT v' d' T := by
  unfold okT tOne at h ⊢
  simp only [Bool.and_eq_true, decide_eq_true_eq] at h ⊢
  exact ⟨by omega, tfits_mono h.2.1 hv, tAll_mono h.2.2 hv (by omega)⟩
theorem okT_V {v d n : Int} (h0 : 0 ≤ n) (h1 : n < v) (hd : 1 ≤ d) : okT v d (tV n) := by
  unfold okT tOne tV tfitsB
  simp [tkids, tlim, tlo, thi, lvB, Ft.len, Fo.len, tAll, h0, h1, hd]
/-- How many terms there may be, at most so deep. -/
def T3 : Nat → Nat
  | 0 => 0
  | d + 1 => 3 * T3 d + 1
theorem tAll_size {p m : Int} : ∀ {f : Ft} {k0 : Int} {i : Nat} {v : Int} {d : Nat}, tAll p m f k0 i v d = true → f.size ≤ f.len * T3 d
  | .nil, _, _, _, _, _ => Nat.zero_le _
  | .cons k n ls ks r, k0, i, v, d, h => by
    unfold tAll at h
    simp only [Bool.and_eq_true, decide_eq_true_eq] at h
    obtain ⟨⟨h1, h2, h3⟩, h4⟩ := h
    match d, h1, h3, h4 with
    | d + 1, _, h3, h4 =>
      rw [show ((d + 1 : Nat) : Int) - 1 = (d : Int) by omega] at h3
      have a := tAll_size h3
      have b := tAll_size h4
      have c := tfits_len h2
      have e := tkids_cases k
      have hl : ks.len ≤ 3 := by omega
      have hm : ks.len * T3 d ≤ 3 * T3 d := Nat.mul_le_mul_right _ hl
      have hT : T3 (d + 1) = 3 * T3 d + 1 := rfl
      simp only [Ft.size, Ft.len, Nat.add_mul]
      omega
theorem okT.size {v : Int} {d : Nat} {T : Tm} (h : okT v ((d + 1 : Nat) : Int) T) : T.ks.size ≤ 3 * T3 d := by
  unfold okT tOne at h
  simp only [Bool.and_eq_true, decide_eq_true_eq] at h
  have h3 := h.2.2
  rw [show ((d + 1 : Nat) : Int) - 1 = (d : Int) by omega] at h3
  have a := tAll_size h3
  have c := tfits_len h.2.1
  have e := tkids_cases T.k
  have hl : T.ks.len ≤ 3 := by omega
  have hm : T.ks.len * T3 d ≤ 3 * T3 d := Nat.mul_le_mul_right _ hl
  omega
theorem okT.sh {v d : Int} {T : Tm} (h : okT v d T) (hv : v ≤ 1000) (hd : d ≤ 6) : T.sh = true := by
  have h6 : okT v ((5 + 1 : Nat) : Int) T := h.mono (Int.le_refl _) (by omega)
  have hs := h6.size
  rw [show T3 5 = 121 by decide] at hs
  have h30 := h.mono (v' := 1000) (d' := 30) hv (by omega)
  unfold Tm.sh shB tRightB
  unfold okT at h30
  rw [h30, decide_eq_true (by omega), decide_eq_true (by omega)]
  rfl
theorem okT.wf {v d : Int} {T : Tm} (h : okT v d T) (hv : v ≤ 1000) (hd : d ≤ 6) : wf1 1030 T.k T.n T.ls T.ks := wf_of_sh (h.sh hv hd)
theorem tAll_rep {g : Int → Int → Tm} {b0 V W D : Int} (hD : 1 ≤ D) (hg : ∀ n x, b0 ≤ x → 0 ≤ n → n < V + x → okT (W + x) D (g n x)) : ∀ (f : Ft) (k0 : Int) (i : Nat) (b d : Int), b0 ≤ b → tAll 5 10 f k0 i (V + b) d = true → tAll 5 10 (repF g f k0 i b) k0 i (W + b) (d + D - 1) = true
  | .nil, _, _, _, _, _, _ => rfl
  | .cons k n ls ks r, k0, i, b, d, hb, h => by
    have hbi := bindK_le k0 i
    unfold tAll at h
    simp only [Bool.and_eq_true, decide_eq_true_eq] at h
    obtain ⟨⟨h1, h2, h3⟩, h4⟩ := h
    rw [repF_cons]
    show tAll 5 10 (.cons _ _ _ _ _) k0 i (W + b) (d + D - 1) = true
    rw [tAll_cons, Bool.and_eq_true]
    refine ⟨?_, tAll_rep hD hg r k0 (i + 1) b d hb h4⟩
    have h2' : tfitsB 5 10 (V + (b + bindK k0 i)) k n ls ks.len = true := by rw [← Int.add_assoc]; exact h2
    have h3' : tAll 5 10 ks k 0 (V + (b + bindK k0 i)) (d - 1) = true := by rw [← Int.add_assoc]; exact h3
    rw [Int.add_assoc]
    unfold rep1
    by_cases hk : k = 1
    · subst hk
      rw [if_pos rfl]
      obtain ⟨_, _, n0, n1⟩ := tfits_var h2'
      exact (hg n _ (by omega) n0 n1).mono (Int.le_refl _) (by omega)
    · rw [if_neg hk]
      have ih := tAll_rep hD hg ks k 0 (b + bindK k0 i) (d - 1) (by omega) h3'
      unfold tOne
      simp only [Bool.and_eq_true, decide_eq_true_eq]
      refine ⟨by omega, ?_, by rw [show d + D - 1 - 1 = d - 1 + D - 1 by omega]; exact ih⟩
      rw [repF_len]
      unfold tfitsB at h2' ⊢
      have e : ∀ z z' : Int, tlim z k = tlim z' k := fun z z' => by unfold tlim; rw [if_neg hk, if_neg hk]
      rw [e (W + (b + bindK k0 i)) (V + (b + bindK k0 i))]
      exact h2'
theorem okT.rep {g : Int → Int → Tm} {b V W D d : Int} (hD : 1 ≤ D) (hg : ∀ n x, b ≤ x → 0 ≤ n → n < V + x → okT (W + x) D (g n x)) {T : Tm} (h : okT (V + b) d T) : okT (W + b) (d + D - 1) (T.rep g b) := by
  have h1 : tAll 5 10 (.cons T.k T.n T.ls T.ks .nil) 0 0 (V + b) d = true := by
    rw [tAll_cons, show bindK 0 0 = 0 by simp [bindK], Int.add_zero]
    unfold okT at h
    rw [h]; rfl
  have h2 := tAll_rep hD hg (.cons T.k T.n T.ls T.ks .nil) 0 0 b d (Int.le_refl _) h1
  rw [repF_cons, show bindK 0 0 = 0 by simp [bindK], Int.add_zero] at h2
  unfold Tm.to at h2
  rw [tAll_cons, show bindK 0 0 = 0 by simp [bindK], Int.add_zero, Bool.and_eq_true] at h2
  exact h2.1
theorem okT.lift {fr by' v d : Int} {T : Tm} (h : okT v d T) (hb : 0 ≤ by') : okT (v + by') d (T.rep (gL fr by') 0) := by
  have h1 := okT.rep (g := gL fr by') (b := 0) (V := v) (W := v + by') (D := 1) (d := d) (by omega) (fun n x hx h0 h1 => by
    unfold gL
    exact okT_V (by split <;> omega) (by split <;> omega) (by omega)) (T := T) (by rwa [Int.add_zero])
  rwa [Int.add_zero, show d + 1 - 1 = d by omega] at h1
theorem okT.pos {v d : Int} {T : Tm} (h : okT v d T) : 1 ≤ d := by
  unfold okT tOne at h
  simp only [Bool.and_eq_true, decide_eq_true_eq] at h
  exact h.1
theorem okT.openAt {v d dU b : Int} {T U : Tm} (hv : 0 ≤ v) (hb : 0 ≤ b) (h : okT (v + 1 + b) d T) (hU : okT v dU U) : okT (v + b) (d + dU - 1) (T.rep (gO U) b) :=
  okT.rep (g := gO U) (b := b) (V := v + 1) (W := v) (D := dU) (d := d) hU.pos (fun n x hx h0 h1 => by
    have hp := hU.pos
    unfold gO
    by_cases hn : n = x
    · rw [if_pos hn]
      exact hU.lift (by omega)
    · rw [if_neg hn]
      split
      · exact okT_V (by omega) (by omega) hp
      · exact okT_V (by omega) (by omega) hp) h
theorem okT.open0 {v d dU : Int} {T U : Tm} (hv : 0 ≤ v) (h : okT (v + 1) d T) (hU : okT v dU U) : okT v (d + dU - 1) (T.rep (gO U) 0) := by
  have h1 := okT.openAt (b := 0) hv (by omega) (by rwa [Int.add_zero]) hU
  rwa [Int.add_zero] at h1
theorem liftA_ok {v d fr by' : Int} {T : Tm} (h : okT v d T) (hv : v + by' ≤ 1000) (hd : d ≤ 6) (h1 : 0 ≤ fr) (h2 : fr ≤ 1000) (h3 : 0 ≤ by') (h4 : by' ≤ 1000) : liftA T fr by' = (T.rep (gL fr by') 0, 0) := by
  have a : T.sh = true := h.sh (by omega) hd
  have b : (T.rep (gL fr by') 0).sh = true := (h.lift h3).sh hv hd
  unfold liftA fin1
  rw [if_pos ⟨a, h1, h2, h3, h4⟩]
  show (if (T.rep (gL fr by') 0).sh = true then (T.rep (gL fr by') 0, (0 : Int)) else (tZ, 2)) = _
  rw [if_pos b]
theorem openA_ok {v d dU : Int} {T U : Tm} (hv : 0 ≤ v) (h : okT (v + 1) d T) (hU : okT v dU U) (hv1 : v + 1 ≤ 1000) (hd : d ≤ 6) (hdU : dU ≤ 6) (hr : (T.rep (gO U) 0).sh = true) : openA T U = (T.rep (gO U) 0, 0) := by
  have a : T.sh = true := h.sh hv1 hd
  have b : U.sh = true := hU.sh (by omega) hdU
  unfold openA fin1
  rw [if_pos ⟨a, b⟩]
  show (if (T.rep (gO U) 0).sh = true then (T.rep (gO U) 0, (0 : Int)) else (tZ, 2)) = _
  rw [if_pos hr]
end Go.Proofs.Ytcnhfoppfihhiaa
