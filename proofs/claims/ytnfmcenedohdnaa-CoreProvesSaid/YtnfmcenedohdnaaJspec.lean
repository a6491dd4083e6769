/- The rounds of layer 9, as plain functions of lists; that they end, with the least model or with none (J4). No condition but those that stand in each statement. -/
import Derived.Test.YtnfmcenedohdnaaHless
namespace Go.Proofs.Ytnfmcenedohdnaa
open Go

/-- No value of the one is more than the other's. -/
def LeM (a b : List Int) : Prop := a.length = b.length ∧ ∀ i, a.getD i 0 ≤ b.getD i 0
theorem LeM.refl (a : List Int) : LeM a a := ⟨rfl, fun _ => Int.le_refl _⟩
theorem LeM.trans {a b c : List Int} (h : LeM a b) (k : LeM b c) : LeM a c := ⟨h.1.trans k.1, fun i => Int.le_trans (h.2 i) (k.2 i)⟩
theorem getD_ext {a b : List Int} (hl : a.length = b.length) (h : ∀ i, a.getD i 0 = b.getD i 0) : a = b := by
  refine List.ext_getElem hl fun i h1 h2 => ?_
  have := h i
  rw [List.getD_eq_getElem?_getD, List.getD_eq_getElem?_getD, List.getElem?_eq_getElem h1, List.getElem?_eq_getElem h2] at this
  exact this
theorem LeM.anti {a b : List Int} (h : LeM a b) (k : LeM b a) : a = b := getD_ext h.1 fun i => Int.le_antisymm (h.2 i) (k.2 i)
theorem getD_set {m : List Int} {i : Nat} (z : Int) (hi : i < m.length) (k : Nat) : (m.set i z).getD k 0 = if k = i then z else m.getD k 0 := by
  rw [List.getD_eq_getElem?_getD, List.getD_eq_getElem?_getD, List.getElem?_set]
  by_cases e : i = k
  · subst e
    rw [if_pos rfl, if_pos hi, if_pos rfl]; rfl
  · rw [if_neg e, if_neg (Ne.symm e)]
theorem LeM.val {a b : List Int} (h : LeM a b) (x : At) : valA a x ≤ valA b x := by
  have := h.2 x.1.toNat
  unfold valA
  omega
theorem LeM.ask {a b : List Int} {V : Int} {c : Cl} (hc : clB V c = true) (h : LeM a b) : askC c a ≤ askC c b := ask_mono hc (fun x _ => h.val x)

/-- A clause is looked at. -/
def stepJ (m : List Int) (c : Cl) : List Int := if m.getD c.2.1.toNat 0 < askC c m then m.set c.2.1.toNat (askC c m) else m
def rndJ (l : List Cl) (m : List Int) : List Int := l.foldl stepJ m
theorem stepJ_yes {m : List Int} {c : Cl} (h : brkB m c = true) : stepJ m c = m.set c.2.1.toNat (askC c m) := by
  unfold stepJ
  rw [if_pos (of_decide_eq_true h)]
theorem stepJ_no {m : List Int} {c : Cl} (h : brkB m c = false) : stepJ m c = m := by
  unfold stepJ
  rw [if_neg (of_decide_eq_false h)]
theorem stepJ_len (m : List Int) (c : Cl) : (stepJ m c).length = m.length := by
  cases h : brkB m c with
  | true => rw [stepJ_yes h, List.length_set]
  | false => rw [stepJ_no h]
theorem cl_to {V : Nat} {c : Cl} (hc : clB V c = true) : c.2.1.toNat < V := by
  have := atB_of (clB_of hc).1
  omega
theorem stepJ_le {m : List Int} {c : Cl} (hc : clB m.length c = true) : LeM m (stepJ m c) := by
  refine ⟨(stepJ_len m c).symm, fun i => ?_⟩
  cases h : brkB m c with
  | true =>
    rw [stepJ_yes h, getD_set _ (cl_to hc)]
    split
    · rename_i e; subst e; have := of_decide_eq_true h; omega
    · exact Int.le_refl _
  | false => rw [stepJ_no h]; exact Int.le_refl _
theorem stepJ_below {m a : List Int} {c : Cl} (hc : clB m.length c = true) (h : LeM m a) (hb : brkB a c = false) : LeM (stepJ m c) a := by
  refine ⟨(stepJ_len m c).trans h.1, fun i => ?_⟩
  cases hm : brkB m c with
  | true =>
    rw [stepJ_yes hm, getD_set _ (cl_to hc)]
    split
    · rename_i e; subst e; have := of_decide_eq_false hb; have := h.ask hc; omega
    · exact h.2 i
  | false => rw [stepJ_no hm]; exact h.2 i
theorem stepJ_ne {m : List Int} {c : Cl} (hc : clB m.length c = true) (h : brkB m c = true) : stepJ m c ≠ m := fun e => by
  have h1 := getD_set (askC c m) (cl_to hc) c.2.1.toNat
  rw [if_pos rfl, ← stepJ_yes h, e] at h1
  have := of_decide_eq_true h
  omega
def RightJ (V : Nat) (l : List Cl) : Prop := ∀ c ∈ l, clB V c = true
theorem RightJ.of {V : Nat} {l : List Cl} (h : l.all (clB V) = true) : RightJ V l := fun c hc => List.all_eq_true.1 h c hc
/-- All clauses hold. -/
def ModJ (l : List Cl) (m : List Int) : Prop := ∀ c ∈ l, brkB m c = false
theorem rndJ_len : ∀ (l : List Cl) (m : List Int), (rndJ l m).length = m.length
  | [], _ => rfl
  | c :: r, m => (rndJ_len r (stepJ m c)).trans (stepJ_len m c)
theorem rndJ_snoc (l : List Cl) (m : List Int) (c : Cl) : rndJ (l ++ [c]) m = stepJ (rndJ l m) c := by simp [rndJ]
theorem rndJ_le : ∀ {l : List Cl} {m : List Int}, RightJ m.length l → LeM m (rndJ l m)
  | [], m, _ => LeM.refl m
  | c :: r, m, h => (stepJ_le (h c (by simp))).trans (rndJ_le (by rw [stepJ_len]; exact fun d hd => h d (by simp [hd])))
theorem rndJ_below : ∀ {l : List Cl} {m a : List Int}, RightJ m.length l → LeM m a → ModJ l a → LeM (rndJ l m) a
  | [], _, _, _, h, _ => h
  | c :: r, m, a, h, hm, ha => rndJ_below (l := r) (by rw [stepJ_len]; exact fun d hd => h d (by simp [hd])) (stepJ_below (h c (by simp)) hm (ha c (by simp))) (fun d hd => ha d (by simp [hd]))
theorem rndJ_mod : ∀ {l : List Cl} {m : List Int}, RightJ m.length l → rndJ l m = m → ModJ l m
  | [], m, _, _ => fun c hc => by cases hc
  | c :: r, m, h, e => by
    have hc := h c (by simp)
    have h2 : RightJ (stepJ m c).length r := by rw [stepJ_len]; exact fun d hd => h d (by simp [hd])
    have h3 : stepJ m c = m := LeM.anti (by have := rndJ_le h2; rwa [show rndJ r (stepJ m c) = m from e] at this) (stepJ_le hc)
    have e2 : rndJ r m = m := by have : rndJ r (stepJ m c) = m := e; rwa [h3] at this
    have h4 := rndJ_mod (l := r) (by rwa [h3] at h2) e2
    intro d hd
    rcases List.mem_cons.1 hd with rfl | hd
    · cases hb : brkB m d with
      | false => rfl
      | true => exact absurd h3 (stepJ_ne hc hb)
    · exact h4 d hd
theorem rndJ_fix : ∀ {l : List Cl} {m : List Int}, ModJ l m → rndJ l m = m
  | [], _, _ => rfl
  | c :: r, m, h => by
    show rndJ r (stepJ m c) = m
    rw [stepJ_no (h c (by simp))]
    exact rndJ_fix (fun d hd => h d (by simp [hd]))
/-- What a round changes, clause by clause. -/
theorem rndJ_chg {l : List Cl} {m : List Int} {c : Cl} (h : RightJ m.length (l ++ [c])) : decide (rndJ (l ++ [c]) m ≠ m) = (decide (rndJ l m ≠ m) || brkB (rndJ l m) c) := by
  have hc : clB (rndJ l m).length c = true := by rw [rndJ_len]; exact h c (by simp)
  have hl : RightJ m.length l := fun d hd => h d (by simp [hd])
  rw [rndJ_snoc]
  cases hb : brkB (rndJ l m) c with
  | true =>
    rw [Bool.or_true, decide_eq_true_eq]
    intro e
    have h1 : LeM (rndJ l m) m := by have := stepJ_le hc; rwa [e] at this
    have h2 := (rndJ_le hl).anti h1
    exact stepJ_ne hc hb (by rw [e]; exact h2)
  | false => rw [stepJ_no hb, Bool.or_false]

/-- So many rounds. -/
def itJ (l : List Cl) (m : List Int) : Nat → List Int
  | 0 => m
  | j + 1 => rndJ l (itJ l m j)
theorem itJ_len (l : List Cl) (m : List Int) : ∀ j, (itJ l m j).length = m.length
  | 0 => rfl
  | j + 1 => (rndJ_len l _).trans (itJ_len l m j)
theorem itJ_up {l : List Cl} {m : List Int} (h : RightJ m.length l) (j : Nat) : LeM (itJ l m j) (itJ l m (j + 1)) := rndJ_le (by rw [itJ_len]; exact h)
theorem itJ_le {l : List Cl} {m : List Int} (h : RightJ m.length l) : ∀ j, LeM m (itJ l m j)
  | 0 => LeM.refl m
  | j + 1 => (itJ_le h j).trans (itJ_up h j)
theorem itJ_below {l : List Cl} {m a : List Int} (h : RightJ m.length l) (hm : LeM m a) (ha : ModJ l a) : ∀ j, LeM (itJ l m j) a
  | 0 => hm
  | j + 1 => rndJ_below (by rw [itJ_len]; exact h) (itJ_below h hm ha j) ha
/-- Is a value greater than the limit? -/
def grB (most : Int) (m : List Int) : Bool := m.any fun x => decide (most < x)
theorem grB_no {most : Int} {m : List Int} : grB most m = false ↔ ∀ i, i < m.length → m.getD i 0 ≤ most := by
  constructor
  · intro h i hi
    have := List.any_eq_false.1 h _ (getD_mem 0 hi)
    simpa using this
  · intro h
    refine List.any_eq_false.2 fun x hx => ?_
    obtain ⟨i, hi, rfl⟩ := List.getElem_of_mem hx
    have := h i hi
    rw [List.getD_eq_getElem?_getD, List.getElem?_eq_getElem hi] at this
    simpa using this
/-- The rounds end with the j-th one. -/
def EndJ (l : List Cl) (m : List Int) (most : Int) (j : Nat) : Prop :=
  1 ≤ j ∧ (grB most (itJ l m j) = true ∨ itJ l m j = itJ l m (j - 1)) ∧ ∀ i, 1 ≤ i → i < j → grB most (itJ l m i) = false ∧ itJ l m i ≠ itJ l m (i - 1)
theorem EndJ.uniq {l : List Cl} {m : List Int} {most : Int} {j k : Nat} (h : EndJ l m most j) (g : EndJ l m most k) : j = k := by
  have one : ∀ {j k : Nat}, EndJ l m most j → EndJ l m most k → ¬ j < k := fun {j k} h g hlt => by
    obtain ⟨h1, h2, _⟩ := h
    obtain ⟨g1, g2⟩ := g.2.2 j h1 hlt
    rcases h2 with h2 | h2
    · rw [h2] at g1; cases g1
    · exact g2 h2
  have := one h g
  have := one g h
  omega
def sumJ (m : List Int) : Int := m.foldr (· + ·) 0
theorem sumJ_le : ∀ {a b : List Int}, LeM a b → sumJ a ≤ sumJ b ∧ (sumJ a = sumJ b → a = b)
  | [], [], _ => ⟨Int.le_refl _, fun _ => rfl⟩
  | [], _ :: _, h => by have := h.1; simp at this
  | _ :: _, [], h => by have := h.1; simp at this
  | x :: a, y :: b, h => by
    have h0 : x ≤ y := h.2 0
    have ht : LeM a b := ⟨by have := h.1; simpa using this, fun i => h.2 (i + 1)⟩
    have ih := sumJ_le ht
    have hx : sumJ (x :: a) = x + sumJ a := rfl
    have hy : sumJ (y :: b) = y + sumJ b := rfl
    refine ⟨by omega, fun e => ?_⟩
    rw [ih.2 (by omega), show x = y by omega]
theorem sumJ_bd {most : Int} : ∀ {m : List Int}, (∀ i, i < m.length → m.getD i 0 ≤ most) → sumJ m ≤ m.length * most
  | [], _ => by simp [sumJ]
  | x :: m, h => by
    have h0 : x ≤ most := h 0 (by simp)
    have ih := sumJ_bd (most := most) (m := m) (fun i hi => h (i + 1) (by simpa using hi))
    have hx : sumJ (x :: m) = x + sumJ m := rfl
    have e : ((x :: m).length : Int) * most = m.length * most + most := by
      rw [List.length_cons, Int.natCast_add, Int.add_mul]; simp
    omega
theorem sumJ_pos : ∀ {m : List Int}, (∀ i, 0 ≤ m.getD i 0) → 0 ≤ sumJ m
  | [], _ => Int.le_refl _
  | x :: m, h => by
    have h0 : 0 ≤ x := h 0
    have ih := sumJ_pos (m := m) (fun i => h (i + 1))
    have hx : sumJ (x :: m) = x + sumJ m := rfl
    omega
theorem sumJ_up {l : List Cl} {m : List Int} (h : RightJ m.length l) (hne : rndJ l m ≠ m) : sumJ m < sumJ (rndJ l m) := by
  have := sumJ_le (rndJ_le h)
  by_cases e : sumJ m = sumJ (rndJ l m)
  · exact absurd (this.2 e).symm hne
  · omega
/-- As long as rounds change something, the sum grows. -/
theorem sumJ_it {l : List Cl} {m : List Int} (h : RightJ m.length l) : ∀ j : Nat, (∀ i, 1 ≤ i → i ≤ j → itJ l m i ≠ itJ l m (i - 1)) → sumJ m + j ≤ sumJ (itJ l m j)
  | 0, _ => by simp [itJ]
  | j + 1, hne => by
    have ih := sumJ_it h j (fun i h1 h2 => hne i h1 (by omega))
    have h2 := hne (j + 1) (by omega) (Nat.le_refl _)
    have := sumJ_up (l := l) (m := itJ l m j) (by rw [itJ_len]; exact h) h2
    show sumJ m + ((j + 1 : Nat) : Int) ≤ sumJ (rndJ l (itJ l m j))
    omega
/-- How many rounds there are at most. -/
theorem EndJ.bound {l : List Cl} {m : List Int} {most : Int} {j : Nat} (h : RightJ m.length l) (h0 : ∀ i, 0 ≤ m.getD i 0) (hm : ∀ i, i < m.length → m.getD i 0 ≤ most) (he : EndJ l m most j) : (j : Int) ≤ m.length * most + 1 := by
  obtain ⟨h1, _, h3⟩ := he
  have hs := sumJ_it h (j - 1) (fun i a b => (h3 i a (by omega)).2)
  have hp := sumJ_pos h0
  have hb : sumJ (itJ l m (j - 1)) ≤ m.length * most := by
    by_cases e : 1 ≤ j - 1
    · have := sumJ_bd (grB_no.1 (h3 (j - 1) e (by omega)).1)
      rwa [itJ_len] at this
    · have e0 : j - 1 = 0 := by omega
      rw [e0]
      exact sumJ_bd hm
  omega
/-- The rounds end. -/
theorem ends {l : List Cl} {m : List Int} {most : Int} (h : RightJ m.length l) : ∃ j, EndJ l m most j := by
  refine Classical.byContradiction fun hno => ?_
  have all : ∀ j : Nat, ∀ i, 1 ≤ i → i ≤ j → grB most (itJ l m i) = false ∧ itJ l m i ≠ itJ l m (i - 1) := by
    intro j
    induction j with
    | zero => intro i h1 h2; omega
    | succ j ih =>
      intro i h1 h2
      by_cases e : i ≤ j
      · exact ih i h1 e
      · obtain rfl : i = j + 1 := by omega
        refine Classical.byContradiction fun hn => hno ⟨j + 1, by omega, ?_, fun k a b => ih k a (by omega)⟩
        by_cases hg : grB most (itJ l m (j + 1)) = true
        · exact .inl hg
        · refine .inr (Classical.byContradiction fun he => hn ⟨Bool.eq_false_iff.2 hg, he⟩)
  have key : ∀ j : Nat, 1 ≤ j → sumJ m + j ≤ m.length * most := fun j hj => by
    have h1 := sumJ_it h j (fun i a b => (all j i a b).2)
    have h2 := sumJ_bd (grB_no.1 (all j j hj (Nat.le_refl _)).1)
    rw [itJ_len] at h2
    omega
  have := key ((m.length * most - sumJ m).toNat + 1) (by omega)
  omega
/-- The least model that is no less than m. -/
def LeastJ (l : List Cl) (m a : List Int) : Prop := LeM m a ∧ ModJ l a ∧ ∀ b, LeM m b → ModJ l b → LeM a b
theorem LeastJ.uniq {l : List Cl} {m a b : List Int} (h : LeastJ l m a) (k : LeastJ l m b) : a = b := (h.2.2 b k.1 k.2.1).anti (k.2.2 a h.1 h.2.1)
theorem EndJ.least {l : List Cl} {m : List Int} {most : Int} {j : Nat} (h : RightJ m.length l) (he : EndJ l m most j) (hg : grB most (itJ l m j) = false) : LeastJ l m (itJ l m j) := by
  obtain ⟨h1, h2, _⟩ := he
  rcases h2 with h2 | h2
  · rw [hg] at h2; cases h2
  · obtain ⟨k, rfl⟩ : ∃ k, j = k + 1 := ⟨j - 1, by omega⟩
    have hk : RightJ (itJ l m k).length l := by rw [itJ_len]; exact h
    have hm := rndJ_mod hk h2
    refine ⟨itJ_le h _, ?_, fun b hb hmb => itJ_below h hb hmb _⟩
    rw [h2]; exact hm
/-- Is there a model that is no less, there is a least one. -/
theorem least_ex {l : List Cl} {m a : List Int} (h : RightJ m.length l) (hm : LeM m a) (ha : ModJ l a) : ∃ b, LeastJ l m b := by
  obtain ⟨most, hmost⟩ : ∃ most : Int, ∀ i, i < a.length → a.getD i 0 ≤ most := by
    clear hm ha
    induction a with
    | nil => exact ⟨0, fun i hi => by simp at hi⟩
    | cons x r ih =>
      obtain ⟨t, ht⟩ := ih
      refine ⟨max x t, fun i hi => ?_⟩
      cases i with
      | zero => show x ≤ _; omega
      | succ i => have := ht i (by simpa using hi); show r.getD i 0 ≤ _; omega
  obtain ⟨j, hj⟩ := ends (most := most) h
  have hb := itJ_below h hm ha j
  refine ⟨_, hj.least h (grB_no.2 fun i hi => Int.le_trans (hb.2 i) (hmost i (by have := hb.1; omega)))⟩

/-- THE LIMIT. All values above t are less by one. -/
def lowerJ (t : Int) (m : List Int) : List Int := m.map fun x => if t < x then x - 1 else x
theorem lowerJ_at {t : Int} {m : List Int} {i : Nat} (hi : i < m.length) : (lowerJ t m).getD i 0 = if t < m.getD i 0 then m.getD i 0 - 1 else m.getD i 0 := by
  unfold lowerJ
  rw [List.getD_eq_getElem?_getD, List.getD_eq_getElem?_getD, List.getElem?_map, List.getElem?_eq_getElem hi]
  rfl
theorem lowerJ_len (t : Int) (m : List Int) : (lowerJ t m).length = m.length := by simp [lowerJ]
theorem getD_out {m : List Int} {i : Nat} (h : m.length ≤ i) : m.getD i 0 = 0 := by
  rw [List.getD_eq_getElem?_getD, List.getElem?_eq_none h]; rfl
theorem lowA_mem (m : List Int) : ∀ (l : List At) (s : Int), (lowA m s l = s ∨ ∃ x ∈ l, lowA m s l = valA m x) ∧ ∀ x ∈ l, lowA m s l ≤ valA m x
  | [], s => ⟨.inl rfl, fun x hx => by cases hx⟩
  | y :: r, s => by
    have ih := lowA_mem m r (min s (valA m y))
    have hle := lowA_le m r (min s (valA m y))
    have e : lowA m s (y :: r) = lowA m (min s (valA m y)) r := rfl
    rw [e]
    refine ⟨?_, fun x hx => ?_⟩
    · rcases ih.1 with h | ⟨x, hx, h⟩
      · by_cases hs : s ≤ valA m y
        · exact .inl (by omega)
        · exact .inr ⟨y, by simp, by omega⟩
      · exact .inr ⟨x, by simp [hx], h⟩
    · rcases List.mem_cons.1 hx with rfl | hx
      · omega
      · exact ih.2 x hx
theorem ask_le {c : Cl} {m : List Int} {x : At} (hx : x ∈ c.1) : askC c m ≤ valA m x + c.2.2 := by
  have := (lowA_mem m c.1 (valA m (c.1.getD 0 at0))).2 x hx
  unfold askC
  omega
theorem mostF_mem (c : Cl) : ∀ (l : List At) (s : Int), ∀ x ∈ l, c.2.2 - x.2 ≤ mostF s c l
  | [], _, _, hx => by cases hx
  | y :: r, s, x, hx => by
    have e : mostF s c (y :: r) = mostF (max s (c.2.2 - y.2)) c r := rfl
    rw [e]
    rcases List.mem_cons.1 hx with rfl | hx
    · have := mostF_ge c r (max s (c.2.2 - x.2)); omega
    · exact mostF_mem c r _ x hx
theorem mostD_ge : ∀ (l : List Cl) (s : Int), s ≤ mostD s l
  | [], _ => Int.le_refl _
  | c :: r, s => by
    have h1 := mostF_ge c c.1 s
    have h2 := mostD_ge r (mostF s c c.1)
    show s ≤ mostD (mostF s c c.1) r
    omega
theorem mostD_mem : ∀ (l : List Cl) (s : Int), ∀ c ∈ l, ∀ x ∈ c.1, c.2.2 - x.2 ≤ mostD s l
  | [], _, _, hc, _, _ => by cases hc
  | d :: r, s, c, hc, x, hx => by
    show _ ≤ mostD (mostF s d d.1) r
    rcases List.mem_cons.1 hc with rfl | hc
    · have h1 := mostF_mem c c.1 s x hx
      have h2 := mostD_ge r (mostF s c c.1)
      omega
    · exact mostD_mem r _ c hc x hx
/-- Where nothing lies between t and t + the most, or nothing is at most t, lowering keeps a model. -/
theorem lowerJ_mod {l : List Cl} {m : List Int} {t : Int} (h : RightJ m.length l) (hm : ModJ l m) (hgap : ∀ i, i < m.length → t < m.getD i 0 → t + mostD 0 l < m.getD i 0 ∨ ∀ k, k < m.length → t < m.getD k 0) : ModJ l (lowerJ t m) := by
  intro c hc
  obtain ⟨ht, hf, ha⟩ := clB_of (h c hc)
  have hl := frB_of hf
  have hto := atB_of ht
  have hold := of_decide_eq_false (hm c hc)
  have hT := lowerJ_at (t := t) (m := m) (i := c.2.1.toNat) (by omega)
  have hle : LeM (lowerJ t m) m := ⟨lowerJ_len t m, fun i => by
    by_cases hi : i < m.length
    · rw [lowerJ_at hi]; split <;> omega
    · rw [getD_out (by rw [lowerJ_len]; omega), getD_out (by omega)]; exact Int.le_refl _⟩
  have hask := hle.ask (h c hc)
  refine decide_eq_false ?_
  rw [hT]
  by_cases hS : t < m.getD c.2.1.toNat 0
  · rw [if_pos hS]
    by_cases hall : ∃ x ∈ c.1, ¬ t < m.getD x.1.toNat 0
    · obtain ⟨x, hx, hxt⟩ := hall
      have hxa := atB_of (List.all_eq_true.1 ha x hx)
      have h1 := ask_le (m := lowerJ t m) hx
      have h2 := lowerJ_at (t := t) (m := m) (i := x.1.toNat) (by omega)
      rw [if_neg hxt] at h2
      have h3 := mostD_mem l 0 c hc x hx
      rcases hgap c.2.1.toNat (by omega) hS with hg | hg
      · unfold valA at h1; omega
      · exact absurd (hg x.1.toNat (by omega)) hxt
    · have hv : ∀ x ∈ c.1, valA (lowerJ t m) x = valA m x + -1 := fun x hx => by
        have hxa := atB_of (List.all_eq_true.1 ha x hx)
        have h2 := lowerJ_at (t := t) (m := m) (i := x.1.toNat) (by omega)
        rw [if_pos (Classical.byContradiction fun hn => hall ⟨x, hx, hn⟩)] at h2
        unfold valA; omega
      have := lowA_shift m (lowerJ t m) (-1) c.1 (valA m (c.1.getD 0 at0)) (valA (lowerJ t m) (c.1.getD 0 at0)) hv (hv _ (getD_mem at0 (by omega)))
      unfold askC at hold ⊢
      omega
  · rw [if_neg hS]
    omega
theorem countP_lt {p q : Int → Bool} : ∀ {l : List Int}, (∀ x, p x = true → q x = true) → (∃ x ∈ l, q x = true ∧ p x = false) → l.countP p < l.countP q
  | [], _, h => by obtain ⟨x, hx, _⟩ := h; cases hx
  | y :: r, hpq, h => by
    have hle : r.countP p ≤ r.countP q := List.countP_mono_left fun x _ => hpq x
    obtain ⟨x, hx, h1, h2⟩ := h
    rw [List.countP_cons, List.countP_cons]
    rcases List.mem_cons.1 hx with rfl | hx
    · rw [h1, h2]; simp; omega
    · have ih := countP_lt (l := r) hpq ⟨x, hx, h1, h2⟩
      cases hp : p y with
      | true => rw [hpq y hp]; simp; omega
      | false => cases q y <;> simp <;> omega
/-- Values of the least model are at most the greatest one it began with, and the variables but one times the most. -/
theorem LeastJ.limit {l : List Cl} {m a : List Int} {B : Int} (h : RightJ m.length l) (hl : LeastJ l m a) (hm : ∀ i, i < m.length → m.getD i 0 ≤ B) : ∀ i, i < a.length → a.getD i 0 ≤ B + (a.length - 1) * mostD 0 l := by
  have hD := mostD_ge l 0
  have hra : RightJ a.length l := by rw [← hl.1.1]; exact h
  -- what can be lowered isn't there
  have low : ∀ t, B ≤ t → (∃ i, i < a.length ∧ t < a.getD i 0) → ¬ (∀ i, i < a.length → t < a.getD i 0 → t + mostD 0 l < a.getD i 0 ∨ ∀ k, k < a.length → t < a.getD k 0) := fun t ht hex hgap => by
    obtain ⟨i, hi, hti⟩ := hex
    have hmod := lowerJ_mod hra hl.2.1 hgap
    have hge : LeM m (lowerJ t a) := ⟨by rw [lowerJ_len]; exact hl.1.1, fun k => by
      by_cases hk : k < a.length
      · rw [lowerJ_at hk]
        have h1 := hl.1.2 k
        have h2 := hm k (by have := hl.1.1; omega)
        split <;> omega
      · rw [getD_out (by have := hl.1.1; omega), getD_out (by rw [lowerJ_len]; omega)]; exact Int.le_refl _⟩
    have := (hl.2.2 _ hge hmod).2 i
    rw [lowerJ_at hi, if_pos hti] at this
    omega
  have cnt : ∀ k : Nat, (k : Int) + 1 ≤ (a.countP fun x => decide (x ≤ B + k * mostD 0 l)) ∨ ∀ i, i < a.length → a.getD i 0 ≤ B + k * mostD 0 l := by
    intro k
    induction k with
    | zero =>
      by_cases hex : ∃ i, i < a.length ∧ B < a.getD i 0
      · left
        have h1 := low B (Int.le_refl _) hex
        have h2 : ∃ k, k < a.length ∧ ¬ B < a.getD k 0 := Classical.byContradiction fun hn => h1 fun i _ _ => .inr fun k hk => Classical.byContradiction fun hk2 => hn ⟨k, hk, hk2⟩
        obtain ⟨k, hk, hk2⟩ := h2
        have : 0 < a.countP fun x => decide (x ≤ B + ((0 : Nat) : Int) * mostD 0 l) := List.countP_pos_iff.2 ⟨a.getD k 0, getD_mem 0 hk, decide_eq_true (by rw [show ((0 : Nat) : Int) * mostD 0 l = 0 by simp]; omega)⟩
        omega
      · right
        intro i hi
        have : ¬ B < a.getD i 0 := fun h => hex ⟨i, hi, h⟩
        rw [show ((0 : Nat) : Int) * mostD 0 l = 0 by simp]; omega
    | succ k ih =>
      have e : B + ((k + 1 : Nat) : Int) * mostD 0 l = B + k * mostD 0 l + mostD 0 l := by
        rw [Int.natCast_add, Int.add_mul]; simp; omega
      have hk0 : 0 ≤ (k : Int) * mostD 0 l := Int.mul_nonneg (by omega) hD
      rw [e]
      have hBt : B ≤ B + k * mostD 0 l := by omega
      generalize B + k * mostD 0 l = t at ih hBt ⊢
      by_cases hex : ∃ i, i < a.length ∧ t < a.getD i 0
      · rcases ih with ih | ih
        · left
          have h1 := low t hBt hex
          have h2 : ∃ i, i < a.length ∧ t < a.getD i 0 ∧ a.getD i 0 ≤ t + mostD 0 l := Classical.byContradiction fun hn => h1 fun i hi hti => .inl (Classical.byContradiction fun hk2 => hn ⟨i, hi, hti, by omega⟩)
          obtain ⟨i, hi, h3, h4⟩ := h2
          have := countP_lt (p := fun x => decide (x ≤ t)) (q := fun x => decide (x ≤ t + mostD 0 l)) (l := a) (fun x hx => by simp at hx ⊢; omega) ⟨a.getD i 0, getD_mem 0 hi, decide_eq_true h4, decide_eq_false (by omega)⟩
          omega
        · obtain ⟨i, hi, h3⟩ := hex
          have := ih i hi
          omega
      · right
        intro i hi
        have : ¬ t < a.getD i 0 := fun h => hex ⟨i, hi, h⟩
        omega
  intro i hi
  have he : (a.length : Int) - 1 = ((a.length - 1 : Nat) : Int) := by omega
  rw [he]
  rcases cnt (a.length - 1) with h1 | h1
  · have hle := List.countP_le_length (p := fun x => decide (x ≤ B + ((a.length - 1 : Nat) : Int) * mostD 0 l)) (l := a)
    have heq : a.countP (fun x => decide (x ≤ B + ((a.length - 1 : Nat) : Int) * mostD 0 l)) = a.length := by omega
    have := List.countP_eq_length.1 heq _ (getD_mem 0 hi)
    exact of_decide_eq_true this
  · exact h1 i hi
/-- J4: where the rounds end with a value above the limit, no model is no less. -/
theorem great_none {l : List Cl} {m a : List Int} {B : Int} {j : Nat} (h : RightJ m.length l) (hB : ∀ i, i < m.length → m.getD i 0 ≤ B) (hg : grB (B + (m.length - 1) * mostD 0 l) (itJ l m j) = true) (hm : LeM m a) : ¬ ModJ l a := fun ha => by
  obtain ⟨b, hb⟩ := least_ex h hm ha
  have hlim := hb.limit h hB
  have hle := itJ_below h hb.1 hb.2.1 j
  have : grB (B + (m.length - 1) * mostD 0 l) (itJ l m j) = false := grB_no.2 fun i hi => by
    have h1 := hlim i (by have := hle.1; omega)
    rw [← hb.1.1] at h1
    exact Int.le_trans (hle.2 i) h1
  rw [hg] at this
  cases this
/-- There is a model that is no less, if there is one at all. -/
theorem mod_more {l : List Cl} {m a : List Int} (h : RightJ m.length l) (hl : a.length = m.length) (ha : ModJ l a) : ∃ b, LeM m b ∧ ModJ l b := by
  obtain ⟨k, hk0, hk⟩ : ∃ k : Int, 0 ≤ k ∧ ∀ i, i < m.length → m.getD i 0 ≤ a.getD i 0 + k := by
    clear h ha
    induction m generalizing a with
    | nil => exact ⟨0, Int.le_refl _, fun i hi => by simp at hi⟩
    | cons x r ih =>
      cases a with
      | nil => simp at hl
      | cons y a =>
        obtain ⟨k, hk0, hk⟩ := ih (a := a) (by simpa using hl)
        refine ⟨max k (x - y), by omega, fun i hi => ?_⟩
        cases i with
        | zero => show x ≤ y + _; omega
        | succ i => have := hk i (by simpa using hi); show r.getD i 0 ≤ a.getD i 0 + _; omega
  have hp : PtM (a.map (· + k)) m.length (fun j => a.getD j 0 + k) := ⟨by simp [hl], fun j hj => by
    show _ = a.getD j 0 + k
    rw [List.getD_eq_getElem?_getD, List.getD_eq_getElem?_getD, List.getElem?_map, List.getElem?_eq_getElem (by omega)]; rfl⟩
  refine ⟨a.map (· + k), ⟨by simp [hl], fun i => ?_⟩, fun c hc => (brk_up (h c hc) hl hp).trans (ha c hc)⟩
  by_cases hi : i < m.length
  · rw [hp.2 i hi]; exact hk i hi
  · rw [getD_out (by omega), getD_out (by simp; omega)]; exact Int.le_refl _
/-- What is told of the rounds: the model they end with, and true; or nothing and false. -/
def TellJ (l : List Cl) (m : List Int) (most : Int) (a : List Int) (is : Bool) (looks : Int) : Prop :=
  ∃ j, EndJ l m most j ∧ is = !grB most (itJ l m j) ∧ (a = if grB most (itJ l m j) = true then [] else itJ l m j) ∧ looks = j * l.length
theorem TellJ.uniq {l : List Cl} {m a b : List Int} {most x y : Int} {is are : Bool} (h : TellJ l m most a is x) (k : TellJ l m most b are y) : a = b ∧ is = are ∧ x = y := by
  obtain ⟨j, h1, rfl, rfl, rfl⟩ := h
  obtain ⟨i, k1, rfl, rfl, rfl⟩ := k
  obtain rfl := h1.uniq k1
  exact ⟨rfl, rfl, rfl⟩
theorem TellJ.cases {l : List Cl} {m a : List Int} {B x : Int} {is : Bool} (h : RightJ m.length l) (hB : ∀ i, i < m.length → m.getD i 0 ≤ B) (ht : TellJ l m (B + (m.length - 1) * mostD 0 l) a is x) :
    (is = true ∧ LeastJ l m a ∧ ∀ i, i < a.length → a.getD i 0 ≤ B + (m.length - 1) * mostD 0 l) ∨ (is = false ∧ a = [] ∧ ∀ b, LeM m b → ¬ ModJ l b) := by
  obtain ⟨j, he, rfl, rfl, rfl⟩ := ht
  cases hg : grB (B + (m.length - 1) * mostD 0 l) (itJ l m j) with
  | true => exact .inr ⟨rfl, rfl, fun b hb => great_none h hB hg hb⟩
  | false => exact .inl ⟨rfl, he.least h hg, grB_no.1 hg⟩
theorem TellJ.yes {l : List Cl} {m a b : List Int} {B x : Int} {is : Bool} (h : RightJ m.length l) (hB : ∀ i, i < m.length → m.getD i 0 ≤ B) (ht : TellJ l m (B + (m.length - 1) * mostD 0 l) a is x) (hb : b.length = m.length) (hm : ModJ l b) : is = true := by
  rcases ht.cases h hB with ⟨h1, _⟩ | ⟨_, _, h1⟩
  · exact h1
  · obtain ⟨c, h2, h3⟩ := mod_more h hb hm
    exact absurd h3 (h1 c h2)
/-- Which clauses don't hold: none. -/
theorem brkTo_none {m : List Int} {l : List Cl} : ∀ k : Nat, brkTo m l k = [] ↔ ∀ i, i < k → brkB m (l.getD i cl0) = false
  | 0 => ⟨fun _ i hi => by omega, fun _ => rfl⟩
  | k + 1 => by
    rw [brkTo_succ, List.append_eq_nil_iff, brkTo_none k]
    constructor
    · rintro ⟨h1, h2⟩ i hi
      by_cases e : i < k
      · exact h1 i e
      · obtain rfl : i = k := by omega
        cases hb : brkB m (l.getD i cl0) with
        | false => rfl
        | true => rw [hb, if_pos rfl] at h2; cases h2
    · intro h
      exact ⟨fun i hi => h i (by omega), by rw [h k (by omega)]; rfl⟩
theorem brkL_none {m : List Int} {l : List Cl} : brkL m l = [] ↔ ModJ l m := by
  unfold brkL
  rw [brkTo_none]
  constructor
  · intro h c hc
    obtain ⟨i, hi, rfl⟩ := List.getElem_of_mem hc
    have := h i hi
    rwa [List.getD_eq_getElem?_getD, List.getElem?_eq_getElem hi] at this
  · exact fun h i hi => h _ (getD_mem cl0 hi)
def zerosJ (V : Nat) : List Int := List.replicate V 0
theorem zerosJ_len (V : Nat) : (zerosJ V).length = V := by simp [zerosJ]
theorem zerosJ_at (V i : Nat) : (zerosJ V).getD i 0 = 0 := by
  by_cases hi : i < V
  · unfold zerosJ; rw [List.getD_eq_getElem?_getD]; simp [hi]
  · exact getD_out (by rw [zerosJ_len]; omega)
theorem zerosJ_le {a : List Int} {V : Nat} (hl : a.length = V) (h : natsB a = true) : LeM (zerosJ V) a := ⟨(zerosJ_len V).trans hl.symm, fun i => by rw [zerosJ_at]; exact (natsB_getD h i).1⟩
/-- The clauses in another order, or some of them. -/
theorem ModJ.sub {l k : List Cl} {m : List Int} (h : ModJ l m) (hs : ∀ c ∈ k, c ∈ l) : ModJ k m := fun c hc => h c (hs c hc)
theorem LeastJ.same {l k : List Cl} {m a : List Int} (h : LeastJ l m a) (h1 : ∀ c ∈ k, c ∈ l) (h2 : ∀ c ∈ l, c ∈ k) : LeastJ k m a := ⟨h.1, h.2.1.sub h1, fun b hb hm => h.2.2 b hb (hm.sub h2)⟩
/-- How great values may become within a round. -/
theorem stepJ_bd {m : List Int} {c : Cl} {X : Int} (hc : clB m.length c = true) (h : ∀ i, 0 ≤ m.getD i 0 ∧ m.getD i 0 ≤ X) : ∀ i, 0 ≤ (stepJ m c).getD i 0 ∧ (stepJ m c).getD i 0 ≤ X + 1000 := by
  intro i
  have hle := (stepJ_le hc).2 i
  have hi := h i
  refine ⟨by omega, ?_⟩
  cases hb : brkB m c with
  | true =>
    rw [stepJ_yes hb, getD_set _ (cl_to hc)]
    obtain ⟨ht, hf, ha⟩ := clB_of hc
    have hl := frB_of hf
    have h0 := atB_of (all_getD ha at0 (i := 0) (by omega))
    have hto := atB_of ht
    have h1 := ask_le (c := c) (m := m) (getD_mem at0 (i := 0) (by omega))
    have h2 := h (c.1.getD 0 at0).1.toNat
    unfold valA at h1
    split <;> omega
  | false => rw [stepJ_no hb]; omega
theorem rndJ_bd : ∀ {l : List Cl} {m : List Int} {X : Int}, RightJ m.length l → (∀ i, 0 ≤ m.getD i 0 ∧ m.getD i 0 ≤ X) → ∀ i, 0 ≤ (rndJ l m).getD i 0 ∧ (rndJ l m).getD i 0 ≤ X + 1000 * l.length
  | [], m, X, _, h => fun i => by have := h i; show 0 ≤ m.getD i 0 ∧ m.getD i 0 ≤ _; simp only [List.length_nil]; omega
  | c :: r, m, X, hr, h => fun i => by
    have hc := hr c (by simp)
    have := rndJ_bd (l := r) (m := stepJ m c) (X := X + 1000) (by rw [stepJ_len]; exact fun d hd => hr d (by simp [hd])) (stepJ_bd hc h) i
    have e : (rndJ (c :: r) m) = rndJ r (stepJ m c) := rfl
    rw [e]
    simp only [List.length_cons]
    omega
/-- One round more, where the rounds didn't end. -/
def GoJ (l : List Cl) (m : List Int) (most : Int) (j : Nat) : Prop := ∀ i, 1 ≤ i → i ≤ j → grB most (itJ l m i) = false ∧ itJ l m i ≠ itJ l m (i - 1)
theorem GoJ.zero (l : List Cl) (m : List Int) (most : Int) : GoJ l m most 0 := fun i h1 h2 => by omega
theorem GoJ.next {l : List Cl} {m : List Int} {most : Int} {j : Nat} (h : GoJ l m most j) (h1 : grB most (rndJ l (itJ l m j)) = false) (h2 : rndJ l (itJ l m j) ≠ itJ l m j) : GoJ l m most (j + 1) := fun i a b => by
  by_cases e : i ≤ j
  · exact h i a e
  · obtain rfl : i = j + 1 := by omega
    exact ⟨h1, h2⟩
theorem GoJ.great {l : List Cl} {m : List Int} {most : Int} {j : Nat} (h : GoJ l m most j) (h1 : grB most (rndJ l (itJ l m j)) = true) : TellJ l m most [] false (((j + 1 : Nat) : Int) * l.length) :=
  ⟨j + 1, ⟨by omega, .inl h1, fun i a b => h i a (by omega)⟩, by show false = !grB most (rndJ l (itJ l m j)); rw [h1]; rfl, by show [] = if grB most (rndJ l (itJ l m j)) = true then _ else _; rw [h1]; rfl, rfl⟩
theorem GoJ.same {l : List Cl} {m : List Int} {most : Int} {j : Nat} (h : GoJ l m most j) (h1 : grB most (rndJ l (itJ l m j)) = false) (h2 : rndJ l (itJ l m j) = itJ l m j) : TellJ l m most (itJ l m j) true (((j + 1 : Nat) : Int) * l.length) :=
  ⟨j + 1, ⟨by omega, .inr h2, fun i a b => h i a (by omega)⟩, by show true = !grB most (rndJ l (itJ l m j)); rw [h1]; rfl, by show _ = if grB most (rndJ l (itJ l m j)) = true then _ else rndJ l (itJ l m j); rw [h1, h2]; rfl, rfl⟩
/-- How many rounds have been at most, and how great the values are there. -/
theorem GoJ.bd {l : List Cl} {m : List Int} {most : Int} {j : Nat} (h : RightJ m.length l) (h0 : ∀ i, 0 ≤ m.getD i 0) (hm : ∀ i, i < m.length → m.getD i 0 ≤ most) (h1 : 0 ≤ most) (hg : GoJ l m most j) : (j : Int) ≤ m.length * most ∧ ∀ i, 0 ≤ (itJ l m j).getD i 0 ∧ (itJ l m j).getD i 0 ≤ most := by
  have hs := sumJ_it h j (fun i a b => (hg i a b).2)
  have hp := sumJ_pos h0
  have hle : ∀ i, i < (itJ l m j).length → (itJ l m j).getD i 0 ≤ most := by
    by_cases e : 1 ≤ j
    · exact grB_no.1 (hg j e (Nat.le_refl _)).1
    · obtain rfl : j = 0 := by omega
      exact hm
  have hb := sumJ_bd hle
  rw [itJ_len] at hb
  refine ⟨by omega, fun i => ⟨Int.le_trans (h0 i) ((itJ_le h j).2 i), ?_⟩⟩
  by_cases hi : i < (itJ l m j).length
  · exact hle i hi
  · rw [getD_out (by omega)]; exact h1
end Go.Proofs.Ytnfmcenedohdnaa
