/- What the document says of clauses, as plain functions of lists: which are right, what is demanded, which are broken, the most, the names; that the ways in which the program and the document's own answer reckon come to the same. No condition but those that stand in each statement. -/
import Derived.Test.YtnfmcenedohdnaaIntsIn
namespace Go.Proofs.Ytnfmcenedohdnaa
open Go

/-- An atom: its variable and its Off. -/
abbrev At := Int × Int
/-- A clause: From, and To. -/
abbrev Cl := List At × At
def at0 : At := (0, 0)
def cl0 : Cl := ([], at0)

def atB (vars : Int) (x : At) : Bool := decide (0 ≤ x.1) && (decide (x.1 < vars) && (decide (0 ≤ x.2) && decide (x.2 ≤ 1000)))
def frB (c : Cl) : Bool := decide (1 ≤ c.1.length) && decide (c.1.length ≤ 6)
def clB (vars : Int) (c : Cl) : Bool := atB vars c.2 && (frB c && c.1.all (atB vars))
def cntB (vars : Int) (l : List Cl) : Bool := decide (1 ≤ vars) && (decide (vars ≤ 16) && decide (l.length ≤ 60))
def hrB (vars : Int) (l : List Cl) : Bool := cntB vars l && l.all (clB vars)
/-- Each atom with its clause: those of From, and then To. -/
def pairsOf (c : Cl) : List (Cl × At) := c.1.map (fun a => (c, a)) ++ [(c, c.2)]
def pairs : List Cl → List (Cl × At)
  | [] => []
  | c :: r => pairsOf c ++ pairs r
theorem pairs_app : ∀ a b : List Cl, pairs (a ++ b) = pairs a ++ pairs b
  | [], _ => rfl
  | c :: r, b => by simp only [List.cons_append, pairs, pairs_app r b, List.append_assoc]
theorem pairs_mem {l : List Cl} {y : Cl} {a : At} : (y, a) ∈ pairs l ↔ y ∈ l ∧ (a ∈ y.1 ∨ a = y.2) := by
  induction l with
  | nil => simp [pairs]
  | cons c r ih =>
    simp only [pairs, pairsOf, List.mem_append, List.mem_map, List.mem_cons, List.not_mem_nil, or_false, ih]
    constructor
    · rintro ((⟨a', h, e⟩ | e) | ⟨h, h'⟩)
      · cases e; exact ⟨.inl rfl, .inl h⟩
      · cases e; exact ⟨.inl rfl, .inr rfl⟩
      · exact ⟨.inr h, h'⟩
    · rintro ⟨h | h, h'⟩
      · cases h
        rcases h' with h' | h'
        · exact .inl (.inl ⟨a, h', rfl⟩)
        · cases h'; exact .inl (.inr rfl)
      · exact .inr ⟨h, h'⟩
theorem all_getD {α : Type} {l : List α} {p : α → Bool} (h : l.all p = true) (d : α) {i : Nat} (hi : i < l.length) : p (l.getD i d) = true := by
  rw [List.getD_eq_getElem?_getD, List.getElem?_eq_getElem hi]
  exact List.all_eq_true.1 h _ (List.getElem_mem hi)
theorem getD_mem {α : Type} {l : List α} (d : α) {i : Nat} (hi : i < l.length) : l.getD i d ∈ l := by
  rw [List.getD_eq_getElem?_getD, List.getElem?_eq_getElem hi]
  exact List.getElem_mem hi
theorem take_getD {α : Type} (l : List α) (d : α) {i : Nat} (hi : i < l.length) : l.take (i + 1) = l.take i ++ [l.getD i d] := by
  rw [List.take_succ_eq_append_getElem hi, List.getD_eq_getElem?_getD, List.getElem?_eq_getElem hi]; rfl
theorem drop_getD {α : Type} (l : List α) (d : α) {i : Nat} (hi : i < l.length) : l.drop i = l.getD i d :: l.drop (i + 1) := by
  rw [List.drop_eq_getElem_cons hi, List.getD_eq_getElem?_getD, List.getElem?_eq_getElem hi]; rfl
/-- What the program asks of a list comes to what the document asks. -/
theorem hrB_pairs (vars : Int) (l : List Cl) : (l.all frB && (pairs l).all (fun x => atB vars x.2)) = l.all (clB vars) := by
  induction l with
  | nil => rfl
  | cons c r ih =>
    simp only [List.all_cons, pairs, List.all_append, pairsOf, List.all_map, List.all_nil, Bool.and_true, clB]
    rw [← ih]
    have e : (c.1.all ((fun x : Cl × At => atB vars x.2) ∘ fun a => (c, a))) = c.1.all (atB vars) := rfl
    rw [e]
    cases frB c <;> cases r.all frB <;> cases atB vars c.2 <;> cases c.1.all (atB vars) <;> simp

theorem atB_of {vars : Int} {x : At} (h : atB vars x = true) : 0 ≤ x.1 ∧ x.1 < vars ∧ 0 ≤ x.2 ∧ x.2 ≤ 1000 := by
  simp only [atB, Bool.and_eq_true, decide_eq_true_eq] at h
  exact h
theorem frB_of {c : Cl} (h : frB c = true) : 1 ≤ c.1.length ∧ c.1.length ≤ 6 := by
  simp only [frB, Bool.and_eq_true, decide_eq_true_eq] at h
  exact h
theorem clB_of {vars : Int} {c : Cl} (h : clB vars c = true) : atB vars c.2 = true ∧ frB c = true ∧ c.1.all (atB vars) = true := by
  simp only [clB, Bool.and_eq_true] at h
  exact h
theorem hrB_of {vars : Int} {l : List Cl} (h : hrB vars l = true) : 1 ≤ vars ∧ vars ≤ 16 ∧ l.length ≤ 60 ∧ l.all (clB vars) = true := by
  simp only [hrB, cntB, Bool.and_eq_true, decide_eq_true_eq] at h
  exact ⟨h.1.1, h.1.2.1, h.1.2.2, h.2⟩

/-- The value of an atom in a model. -/
def valA (m : List Int) (x : At) : Int := m.getD x.1.toNat 0 - x.2
def lowA (m : List Int) (s : Int) (l : List At) : Int := l.foldl (fun n a => min n (valA m a)) s
def askC (c : Cl) (m : List Int) : Int := lowA m (valA m (c.1.getD 0 at0)) c.1 + c.2.2
theorem natsB_getD {m : List Int} (h : natsB m = true) (i : Nat) : 0 ≤ m.getD i 0 ∧ m.getD i 0 ≤ 1099511627776 := by
  by_cases hi : i < m.length
  · have := all_getD h 0 hi
    simp only [Bool.and_eq_true, decide_eq_true_eq] at this
    exact this
  · rw [List.getD_eq_getElem?_getD, List.getElem?_eq_none (by omega)]; simp
theorem valA_bd {m : List Int} {vars : Int} {x : At} (h : natsB m = true) (hx : atB vars x = true) : -1000 ≤ valA m x ∧ valA m x ≤ 1099511627776 := by
  have h1 := natsB_getD h x.1.toNat
  have h2 := atB_of hx
  unfold valA
  omega
theorem lowA_snoc (m : List Int) (s : Int) (l : List At) (x : At) : lowA m s (l ++ [x]) = min (lowA m s l) (valA m x) := by simp [lowA]
theorem lowA_le (m : List Int) : ∀ (l : List At) (s : Int), lowA m s l ≤ s
  | [], s => Int.le_refl _
  | x :: r, s => by
    have := lowA_le m r (min s (valA m x))
    simp only [lowA, List.foldl_cons] at this ⊢
    omega
theorem lowA_ge (m : List Int) (vars : Int) (h : natsB m = true) : ∀ (l : List At) (s : Int), l.all (atB vars) = true → -1000 ≤ s → -1000 ≤ lowA m s l
  | [], s, _, hs => hs
  | x :: r, s, ha, hs => by
    simp only [List.all_cons, Bool.and_eq_true] at ha
    have h1 := valA_bd h ha.1
    have := lowA_ge m vars h r (min s (valA m x)) ha.2 (by omega)
    simpa [lowA] using this
theorem lowA_same (m : List Int) : ∀ (l : List At) (s t : Int), (∃ x ∈ l, valA m x ≤ s ∧ valA m x ≤ t) → lowA m s l = lowA m t l
  | [], s, t, h => by obtain ⟨x, h, _⟩ := h; cases h
  | y :: r, s, t, h => by
    show lowA m (min s (valA m y)) r = lowA m (min t (valA m y)) r
    by_cases e : valA m y ≤ s ∧ valA m y ≤ t
    · rw [show min s (valA m y) = valA m y by omega, show min t (valA m y) = valA m y by omega]
    · obtain ⟨x, hx, h1, h2⟩ := h
      simp only [List.mem_cons] at hx
      rcases hx with rfl | hx
      · exact absurd ⟨h1, h2⟩ e
      · by_cases e2 : valA m x ≤ valA m y
        · exact lowA_same m r _ _ ⟨x, hx, by omega, by omega⟩
        · rw [show min s (valA m y) = valA m y by omega, show min t (valA m y) = valA m y by omega]
theorem askC_top {c : Cl} {m : List Int} {vars : Int} (h : natsB m = true) (hc : clB vars c = true) : lowA m 9223372036854775807 c.1 + c.2.2 = askC c m := by
  obtain ⟨_, hf, ha⟩ := clB_of hc
  have hl := frB_of hf
  have h0 := all_getD ha at0 (i := 0) (by omega)
  have hb := valA_bd h h0
  unfold askC
  rw [lowA_same m c.1 9223372036854775807 (valA m (c.1.getD 0 at0)) ⟨c.1.getD 0 at0, getD_mem at0 (by omega), by omega, Int.le_refl _⟩]
/-- Does a clause not hold? -/
def brkB (m : List Int) (c : Cl) : Bool := decide (m.getD c.2.1.toNat 0 < askC c m)
/-- The places of the first k clauses that don't hold. -/
def brkTo (m : List Int) (l : List Cl) (k : Nat) : List Int := ((List.range k).filter fun i => brkB m (l.getD i cl0)).map Int.ofNat
theorem brkTo_succ (m : List Int) (l : List Cl) (k : Nat) : brkTo m l (k + 1) = brkTo m l k ++ if brkB m (l.getD k cl0) = true then [(k : Int)] else [] := by
  unfold brkTo
  rw [List.range_succ, List.filter_append, List.map_append]
  congr 1
  by_cases h : brkB m (l.getD k cl0) = true
  · rw [if_pos h]; show List.map Int.ofNat (match brkB m (l.getD k cl0) with | true => [k] | false => []) = _; rw [h]; rfl
  · rw [if_neg h]; show List.map Int.ofNat (match brkB m (l.getD k cl0) with | true => [k] | false => []) = _; rw [Bool.eq_false_iff.2 h]; rfl
theorem brkTo_len (m : List Int) (l : List Cl) (k : Nat) : (brkTo m l k).length ≤ k := by
  unfold brkTo
  have := List.length_filter_le (fun i => brkB m (l.getD i cl0)) (List.range k)
  simp at this ⊢
  exact this
def brkL (m : List Int) (l : List Cl) : List Int := brkTo m l l.length
def brkOk (m : List Int) (l : List Cl) : Bool := hrB m.length l && natsB m

/-- The most, by pairs. -/
def mostP (s : Int) (l : List (Cl × At)) : Int := l.foldl (fun n x => max n (x.1.2.2 - x.2.2)) s
def mostF (s : Int) (c : Cl) (l : List At) : Int := l.foldl (fun n a => max n (c.2.2 - a.2)) s
def mostD (s : Int) (l : List Cl) : Int := l.foldl (fun n c => mostF n c c.1) s
theorem mostP_snoc (s : Int) (l : List (Cl × At)) (x : Cl × At) : mostP s (l ++ [x]) = max (mostP s l) (x.1.2.2 - x.2.2) := by simp [mostP]
theorem mostF_snoc (s : Int) (c : Cl) (l : List At) (x : At) : mostF s c (l ++ [x]) = max (mostF s c l) (c.2.2 - x.2) := by simp [mostF]
theorem mostD_snoc (s : Int) (l : List Cl) (c : Cl) : mostD s (l ++ [c]) = mostF (mostD s l) c c.1 := by simp [mostD]
theorem mostF_ge (c : Cl) : ∀ (l : List At) (s : Int), s ≤ mostF s c l
  | [], s => Int.le_refl _
  | x :: r, s => by
    have := mostF_ge c r (max s (c.2.2 - x.2))
    simp only [mostF, List.foldl_cons] at this ⊢
    omega
theorem mostP_pairs : ∀ (l : List Cl) (s : Int), 0 ≤ s → mostP s (pairs l) = mostD s l
  | [], s, _ => rfl
  | c :: r, s, hs => by
    have e : mostP s (pairsOf c) = mostF s c c.1 := by
      unfold pairsOf
      have h1 : ∀ (a : List At) (t : Int), mostP t (a.map fun a => (c, a)) = mostF t c a := fun a => by
        induction a with
        | nil => intro t; rfl
        | cons y a ih => intro t; exact ih _
      rw [mostP_snoc, h1]
      have := mostF_ge c c.1 s
      show max (mostF s c c.1) (c.2.2 - c.2.2) = _
      omega
    show mostP s (pairsOf c ++ pairs r) = mostD (mostF s c c.1) r
    have h2 : mostP s (pairsOf c ++ pairs r) = mostP (mostP s (pairsOf c)) (pairs r) := by simp [mostP]
    rw [h2, e]
    exact mostP_pairs r _ (by have := mostF_ge c c.1 s; omega)
theorem mostP_bd {vars : Int} : ∀ (l : List (Cl × At)) (s : Int), (∀ x ∈ l, atB vars x.1.2 = true ∧ atB vars x.2 = true) → 0 ≤ s → s ≤ 1000 → 0 ≤ mostP s l ∧ mostP s l ≤ 1000
  | [], s, _, h0, h1 => ⟨h0, h1⟩
  | x :: r, s, h, h0, h1 => by
    have hx := h x (by simp)
    have a1 := atB_of hx.1
    have a2 := atB_of hx.2
    exact mostP_bd r (max s (x.1.2.2 - x.2.2)) (fun y hy => h y (by simp [hy])) (by omega) (by omega)
theorem mostF_bd {vars : Int} {c : Cl} (hc : atB vars c.2 = true) : ∀ (l : List At) (s : Int), l.all (atB vars) = true → 0 ≤ s → s ≤ 1000 → 0 ≤ mostF s c l ∧ mostF s c l ≤ 1000
  | [], s, _, h0, h1 => ⟨h0, h1⟩
  | x :: r, s, h, h0, h1 => by
    simp only [List.all_cons, Bool.and_eq_true] at h
    have a1 := atB_of hc
    have a2 := atB_of h.1
    exact mostF_bd hc r (max s (c.2.2 - x.2)) h.2 (by omega) (by omega)
theorem mostD_bd {vars : Int} : ∀ (l : List Cl) (s : Int), l.all (clB vars) = true → 0 ≤ s → s ≤ 1000 → 0 ≤ mostD s l ∧ mostD s l ≤ 1000
  | [], s, _, h0, h1 => ⟨h0, h1⟩
  | c :: r, s, h, h0, h1 => by
    simp only [List.all_cons, Bool.and_eq_true] at h
    obtain ⟨a1, _, a3⟩ := clB_of h.1
    have := mostF_bd a1 c.1 s a3 h0 h1
    exact mostD_bd r _ h.2 this.1 this.2

/-- Is a variable named? -/
def nmA (v : Int) (l : List At) : Bool := l.any fun a => a.1 == v
def nmC (v : Int) (c : Cl) : Bool := (c.2.1 == v) || nmA v c.1
def nmB (v : Int) (l : List Cl) : Bool := l.any (nmC v)
def nmP (v : Int) (l : List (Cl × At)) : Bool := l.any fun x => x.2.1 == v
theorem nmP_pairs (v : Int) : ∀ l : List Cl, nmP v (pairs l) = nmB v l
  | [] => rfl
  | c :: r => by
    have h := nmP_pairs v r
    unfold nmP at h
    simp only [nmP, pairs, pairsOf, List.any_append, List.any_map, List.any_cons, List.any_nil, Bool.or_false, nmB, nmC, nmA, h]
    have e : (c.1.any ((fun x : Cl × At => x.2.1 == v) ∘ fun a => (c, a))) = c.1.any fun a => a.1 == v := rfl
    rw [e]
    cases c.1.any (fun a => a.1 == v) <;> cases (c.2.1 == v) <;> simp
theorem nmA_snoc (v : Int) (l : List At) (x : At) : nmA v (l ++ [x]) = (nmA v l || (x.1 == v)) := by simp [nmA]
theorem nmB_snoc (v : Int) (l : List Cl) (c : Cl) : nmB v (l ++ [c]) = (nmB v l || nmC v c) := by simp [nmB]
theorem nmP_snoc (v : Int) (l : List (Cl × At)) (x : Cl × At) : nmP v (l ++ [x]) = (nmP v l || (x.2.1 == v)) := by simp [nmP]
theorem nmB_lt {vars : Int} {l : List Cl} (h : l.all (clB vars) = true) {v : Int} (hv : nmB v l = true) : 0 ≤ v ∧ v < vars := by
  obtain ⟨c, hc, hn⟩ := List.any_eq_true.1 hv
  obtain ⟨a1, _, a3⟩ := clB_of (List.all_eq_true.1 h c hc)
  simp only [nmC, nmA, Bool.or_eq_true, beq_iff_eq, List.any_eq_true] at hn
  rcases hn with rfl | ⟨x, hx, rfl⟩
  · have := atB_of a1; omega
  · have := atB_of (List.all_eq_true.1 a3 x hx); omega
/-- The variables below k that are named. -/
def nmTo (l : List Cl) (k : Nat) : List Int := ((List.range k).filter fun v => nmB (Int.ofNat v) l).map Int.ofNat
theorem nmTo_succ (l : List Cl) (k : Nat) : nmTo l (k + 1) = nmTo l k ++ if nmB (k : Int) l = true then [(k : Int)] else [] := by
  unfold nmTo
  rw [List.range_succ, List.filter_append, List.map_append]
  congr 1
  by_cases h : nmB (k : Int) l = true
  · simp [List.filter, h]
  · simp [List.filter, h]
theorem nmTo_len (l : List Cl) (k : Nat) : (nmTo l k).length ≤ k := by
  unfold nmTo
  have := List.length_filter_le (fun v => nmB (Int.ofNat v) l) (List.range k)
  simp at this ⊢
  exact this
theorem nmTo_more {l : List Cl} {k : Nat} (h : ∀ v : Nat, k ≤ v → nmB (v : Int) l = false) : ∀ d : Nat, nmTo l (k + d) = nmTo l k
  | 0 => rfl
  | d + 1 => by
    rw [← Nat.add_assoc, nmTo_succ, nmTo_more h d, if_neg (by rw [h (k + d) (by omega)]; decide), List.append_nil]
theorem nmTo_end {l : List Cl} {k n : Nat} (h : ∀ v : Nat, k ≤ v → nmB (v : Int) l = false) (hn : ∀ v : Nat, n ≤ v → nmB (v : Int) l = false) : nmTo l k = nmTo l n := by
  rcases Nat.le_total k n with hk | hk
  · have := nmTo_more h (n - k)
    rw [show k + (n - k) = n by omega] at this
    exact this.symm
  · have := nmTo_more hn (k - n)
    rw [show n + (k - n) = k by omega] at this
    exact this
end Go.Proofs.Ytnfmcenedohdnaa
