/- Levels put into a term, as plain functions: what is answered, that what comes out may be, that twice is once, that it makes no difference to variables. Plain mathematics. -/
import Derived.Test.YtcnhfoppfihhiaaSsub
import Derived.Test.YtcnhfoppfihhiaaTlmath
import Derived.Test.YtcnhfoppfihhiaaTmk
namespace Go.Proofs.Ytcnhfoppfihhiaa
open Go

/-- Each level of a term with others put in. -/
def qF (P Q : Fo) : Ft → Ft
  | .nil => .nil
  | .cons k n ls ks r => .cons k n (sbF P Q ls) (qF P Q ks) (qF P Q r)
def Tm.q (P Q : Fo) (T : Tm) : Tm := ⟨T.k, T.n, sbF P Q T.ls, qF P Q T.ks⟩
/-- No level is too great. -/
def lvOkB (P Q : Fo) : Fo → Bool
  | .nil => true
  | .cons k n ks r => decide (subE P Q k n ks = 0) && lvOkB P Q r
def qOk (P Q : Fo) : Ft → Bool
  | .nil => true
  | .cons _ _ ls ks r => (lvOkB P Q ls && qOk P Q ks) && qOk P Q r
def Tm.qok (P Q : Fo) (T : Tm) : Bool := lvOkB P Q T.ls && qOk P Q T.ks
/-- What may be put into what. -/
def parB (P Q : Fo) : Bool := decide (P.len ≤ 5) && (decide (Q.len ≤ 10) && (allR P && allR Q))
/-- What Sub answers: the term, and the error's number. -/
def qA (P Q : Fo) (T : Tm) : Tm × Int := if T.sh = true ∧ parB P Q = true then (if T.qok P Q = true then (T.q P Q, 0) else (tZ, 2)) else (tZ, 1)
theorem qF_len (P Q : Fo) : ∀ f : Ft, (qF P Q f).len = f.len
  | .nil => rfl
  | .cons _ _ _ _ r => by show (qF P Q r).len + 1 = r.len + 1; rw [qF_len P Q r]
theorem qF_size (P Q : Fo) : ∀ f : Ft, (qF P Q f).size = f.size
  | .nil => rfl
  | .cons _ _ _ ks r => by simp only [qF, Ft.size]; rw [qF_size P Q ks, qF_size P Q r]
theorem lvB_all : ∀ {F : Fo}, lvB 5 10 F = allR F
  | .nil => rfl
  | .cons k n ks r => by simp only [lvB, allR]; rw [lvB_all]
theorem lvB_noneg : ∀ {F : Fo}, lvB 5 10 F = true → noneg F
  | .nil, _ => trivial
  | .cons k n ks r, h => by
    simp only [lvB, Bool.and_eq_true] at h
    have h1 := right_parts h.1
    exact ⟨h1.1, h1.2.1, lvB_noneg h.2⟩
/-- A level that is not too great, with others put in, may be. -/
theorem sb_right {P Q : Fo} {k n : Int} {ks : Fo} (h : subE P Q k n ks = 0) : ∃ k' n' F, sb1 P Q k n (sbF P Q ks) = .cons k' n' F .nil ∧ rightB 5 10 k' n' F = true := by
  unfold subE at h
  split at h
  · split at h
    · rename_i _ h2
      generalize sb1 P Q k n (sbF P Q ks) = X at h2
      match X, h2 with
      | .cons k' n' F .nil, h2 => exact ⟨k', n', F, rfl, h2⟩
    · cases h
  · cases h
theorem lvB_sb {P Q : Fo} : ∀ {F : Fo}, lvOkB P Q F = true → lvB 5 10 (sbF P Q F) = true
  | .nil, _ => rfl
  | .cons k n ks r, h => by
    simp only [lvOkB, Bool.and_eq_true, decide_eq_true_eq] at h
    obtain ⟨k', n', F, e, hr⟩ := sb_right h.1
    show lvB 5 10 ((sb1 P Q k n (sbF P Q ks)).app (sbF P Q r)) = true
    rw [e]
    exact lvB_app (f := .cons k' n' F .nil) (by simp [lvB, hr]) (lvB_sb h.2)
theorem tfits_q {P Q : Fo} {v k n : Int} {ls : Fo} {len : Nat} (h : tfitsB 5 10 v k n ls len = true) (ho : lvOkB P Q ls = true) : tfitsB 5 10 v k n (sbF P Q ls) len = true := by
  unfold tfitsB at h ⊢
  simp only [Bool.and_eq_true, decide_eq_true_eq] at h ⊢
  obtain ⟨h1, h2, h3, h4, h5, h6⟩ := h
  rw [sbF_len P Q ls (lvB_noneg h6)]
  exact ⟨h1, h2, h3, h4, h5, lvB_sb ho⟩
theorem tAll_q {P Q : Fo} : ∀ {f : Ft} {k0 : Int} {i : Nat} {v d : Int}, tAll 5 10 f k0 i v d = true → qOk P Q f = true → tAll 5 10 (qF P Q f) k0 i v d = true
  | .nil, _, _, _, _, _, _ => rfl
  | .cons k n ls ks r, k0, i, v, d, h, ho => by
    simp only [tAll, qOk, Bool.and_eq_true, decide_eq_true_eq] at h ho
    obtain ⟨⟨h1, h2, h3⟩, h4⟩ := h
    simp only [qF, tAll, Bool.and_eq_true, decide_eq_true_eq]
    exact ⟨⟨h1, by rw [qF_len]; exact tfits_q h2 ho.1.1, tAll_q h3 ho.1.2⟩, tAll_q h4 ho.2⟩
theorem sh_q {P Q : Fo} {T : Tm} (h : T.sh = true) (ho : T.qok P Q = true) : (T.q P Q).sh = true := by
  unfold Tm.sh shB tRightB tOne at h ⊢
  unfold Tm.qok at ho
  simp only [Bool.and_eq_true, decide_eq_true_eq] at h ho ⊢
  obtain ⟨h1, h2, h3, h4, h5⟩ := h
  exact ⟨h1, by show (qF P Q T.ks).size + 1 ≤ 600; rw [qF_size]; exact h2, h3, by show tfitsB 5 10 1000 T.k T.n (sbF P Q T.ls) (qF P Q T.ks).len = true; rw [qF_len]; exact tfits_q h4 ho.1, tAll_q h5 ho.2⟩

theorem qF_rep {P Q : Fo} {g g' : Int → Int → Tm} (h : ∀ n b, (g n b).q P Q = g' n b) : ∀ (f : Ft) (k0 : Int) (i : Nat) (b : Int), qF P Q (repF g f k0 i b) = repF g' (qF P Q f) k0 i b
  | .nil, _, _, _ => rfl
  | .cons k n ls ks r, k0, i, b => by
    show qF P Q ((rep1 g k n ls ks (b + bindK k0 i)).to (repF g r k0 (i + 1) b)) = (rep1 g' k n (sbF P Q ls) (qF P Q ks) (b + bindK k0 i)).to (repF g' (qF P Q r) k0 (i + 1) b)
    rw [← qF_rep h r]
    unfold rep1
    by_cases hk : k = 1
    · rw [if_pos hk, if_pos hk, ← h]; rfl
    · rw [if_neg hk, if_neg hk, ← qF_rep h ks]; rfl
theorem q_rep {P Q : Fo} {g g' : Int → Int → Tm} (h : ∀ n b, (g n b).q P Q = g' n b) (T : Tm) (b : Int) : (T.rep g b).q P Q = (T.q P Q).rep g' b := by
  obtain ⟨k, n, ls, ks⟩ := T
  show (rep1 g k n ls ks b).q P Q = rep1 g' k n (sbF P Q ls) (qF P Q ks) b
  unfold rep1
  by_cases hk : k = 1
  · rw [if_pos hk, if_pos hk, h]
  · rw [if_neg hk, if_neg hk, ← qF_rep h ks]; rfl
theorem q_lift (P Q : Fo) (fr by' : Int) (T : Tm) (b : Int) : (T.rep (gL fr by') b).q P Q = (T.q P Q).rep (gL fr by') b := q_rep (fun _ _ => rfl) T b
theorem q_open (P Q : Fo) (U T : Tm) (b : Int) : (T.rep (gO U) b).q P Q = (T.q P Q).rep (gO (U.q P Q)) b := q_rep (fun n b => by
  rcases Int.lt_trichotomy n b with h | h | h
  · rw [gO_lt h, gO_lt h]; rfl
  · rw [gO_eq h, gO_eq h, q_lift]
  · rw [gO_gt h, gO_gt h]; rfl) T b
/-- Q3: Sub may stand ahead of Open, or behind it. -/
theorem qA_no {P Q : Fo} {T : Tm} (h : (qA P Q T).2 = 0) : T.sh = true ∧ parB P Q = true ∧ T.qok P Q = true ∧ qA P Q T = (T.q P Q, 0) := by
  unfold qA at h ⊢
  by_cases h1 : T.sh = true ∧ parB P Q = true
  · rw [if_pos h1] at h ⊢
    by_cases h2 : T.qok P Q = true
    · rw [if_pos h2]; exact ⟨h1.1, h1.2, h2, rfl⟩
    · rw [if_neg h2] at h; cases h
  · rw [if_neg h1] at h; cases h
theorem open_q {P Q : Fo} {T U X : Tm} (hx : openA T U = (X, 0)) (h : (qA P Q X).2 = 0) (hT : (qA P Q T).2 = 0) (hU : (qA P Q U).2 = 0) : openA (T.q P Q) (U.q P Q) = (X.q P Q, 0) := by
  obtain ⟨hX1, _, hX2, _⟩ := qA_no h
  obtain ⟨hT1, _, hT2, _⟩ := qA_no hT
  obtain ⟨hU1, _, hU2, _⟩ := qA_no hU
  have e : X = T.rep (gO U) 0 := by
    unfold openA at hx
    rw [if_pos ⟨hT1, hU1⟩] at hx
    unfold fin1 at hx
    split at hx
    · exact ((Prod.mk.injEq _ _ _ _).mp hx).1.symm
    · have := ((Prod.mk.injEq _ _ _ _).mp hx).2; cases this
  unfold openA
  rw [if_pos ⟨sh_q hT1 hT2, sh_q hU1 hU2⟩]
  have e2 : rep1 (gO (U.q P Q)) (T.q P Q).k (T.q P Q).n (T.q P Q).ls (T.q P Q).ks 0 = X.q P Q := by rw [e, q_open]; rfl
  rw [e2]
  unfold fin1
  rw [if_pos (sh_q hX1 hX2)]
end Go.Proofs.Ytcnhfoppfihhiaa
