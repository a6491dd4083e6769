/- What holds of the lesser ones of two models' values, and of values that are all more by the same, as plain mathematics; the clauses that hold of both. No condition but those that stand in each statement. -/
import Derived.Test.YtnfmcenedohdnaaHspec
namespace Go.Proofs.Ytnfmcenedohdnaa
open Go

theorem lowA_mono (a m : List Int) : ∀ (l : List At) (s t : Int), (∀ x ∈ l, valA m x ≤ valA a x) → s ≤ t → lowA m s l ≤ lowA a t l
  | [], s, t, _, h => h
  | x :: r, s, t, hx, h => by
    have h1 := hx x (by simp)
    exact lowA_mono a m r (min s (valA m x)) (min t (valA a x)) (fun y hy => hx y (by simp [hy])) (by omega)
theorem lowA_shift (a m : List Int) (k : Int) : ∀ (l : List At) (s t : Int), (∀ x ∈ l, valA m x = valA a x + k) → t = s + k → lowA m t l = lowA a s l + k
  | [], s, t, _, h => h
  | x :: r, s, t, hx, h => by
    have h1 := hx x (by simp)
    exact lowA_shift a m k r (min s (valA a x)) (min t (valA m x)) (fun y hy => hx y (by simp [hy])) (by omega)
theorem ask_mono {a m : List Int} {V : Int} {c : Cl} (hc : clB V c = true) (h : ∀ x, atB V x = true → valA m x ≤ valA a x) : askC c m ≤ askC c a := by
  obtain ⟨_, hf, ha⟩ := clB_of hc
  have hl := frB_of hf
  have hall : ∀ x ∈ c.1, valA m x ≤ valA a x := fun x hx => h x (List.all_eq_true.1 ha x hx)
  have := lowA_mono a m c.1 (valA m (c.1.getD 0 at0)) (valA a (c.1.getD 0 at0)) hall (hall _ (getD_mem at0 (by omega)))
  unfold askC
  omega
theorem ask_shift {a m : List Int} {V k : Int} {c : Cl} (hc : clB V c = true) (h : ∀ x, atB V x = true → valA m x = valA a x + k) : askC c m = askC c a + k := by
  obtain ⟨_, hf, ha⟩ := clB_of hc
  have hl := frB_of hf
  have hall : ∀ x ∈ c.1, valA m x = valA a x + k := fun x hx => h x (List.all_eq_true.1 ha x hx)
  have := lowA_shift a m k c.1 (valA a (c.1.getD 0 at0)) (valA m (c.1.getD 0 at0)) hall (hall _ (getD_mem at0 (by omega)))
  unfold askC
  omega
/-- The values of a model are told by a function. -/
def PtM (m : List Int) (V : Nat) (f : Nat → Int) : Prop := m.length = V ∧ ∀ j, j < V → m.getD j 0 = f j
theorem PtM.val {m : List Int} {V : Nat} {f : Nat → Int} (h : PtM m V f) {x : At} (hx : atB V x = true) : valA m x = f x.1.toNat - x.2 := by
  obtain ⟨h1, h2, _⟩ := atB_of hx
  unfold valA
  rw [h.2 _ (by omega)]
theorem PtM.set {m : List Int} {V : Nat} {f : Nat → Int} (h : PtM m V f) (i : Nat) (z : Int) : PtM (m.set i z) V (fun j => if j = i then z else f j) := by
  refine ⟨by rw [List.length_set]; exact h.1, fun j hj => ?_⟩
  have := h.2 j hj
  rw [List.getD_eq_getElem?_getD] at this ⊢
  rw [List.getElem?_set]
  by_cases e : i = j
  · subst e
    rw [if_pos rfl, if_pos (by rw [h.1]; exact hj)]
    show z = if i = i then z else f i
    rw [if_pos rfl]
  · rw [if_neg e]
    show _ = if j = i then z else f j
    rw [if_neg (Ne.symm e)]
    exact this
theorem PtM.congr {m : List Int} {V : Nat} {f g : Nat → Int} (h : PtM m V f) (hg : ∀ j, j < V → f j = g j) : PtM m V g := ⟨h.1, fun j hj => (h.2 j hj).trans (hg j hj)⟩
theorem PtM.nats {m : List Int} {V : Nat} {f : Nat → Int} (h : PtM m V f) (hf : ∀ j, j < V → 0 ≤ f j ∧ f j ≤ 1099511627776) : natsB m = true := by
  refine List.all_eq_true.2 fun x hx => ?_
  obtain ⟨i, hi, rfl⟩ := List.getElem_of_mem hx
  have h1 := h.2 i (by rw [← h.1]; exact hi)
  rw [List.getD_eq_getElem?_getD, List.getElem?_eq_getElem hi] at h1
  simp only [Option.getD_some] at h1
  have := hf i (by rw [← h.1]; exact hi)
  rw [h1]
  simpa using this
/-- What holds of two models holds of the lesser ones of their values. -/
theorem brk_least {a b m : List Int} {V : Nat} {c : Cl} (hc : clB V c = true) (ha : a.length = V) (hb : b.length = V) (hm : PtM m V (fun j => min (a.getD j 0) (b.getD j 0))) (h1 : brkB a c = false) (h2 : brkB b c = false) : brkB m c = false := by
  have pa : PtM a V (fun j => a.getD j 0) := ⟨ha, fun _ _ => rfl⟩
  have pb : PtM b V (fun j => b.getD j 0) := ⟨hb, fun _ _ => rfl⟩
  have q1 := ask_mono (a := a) (m := m) hc (fun x hx => by rw [hm.val hx, pa.val hx]; omega)
  have q2 := ask_mono (a := b) (m := m) hc (fun x hx => by rw [hm.val hx, pb.val hx]; omega)
  have ht := atB_of (clB_of hc).1
  simp only [brkB, decide_eq_false_iff_not] at h1 h2 ⊢
  have h3 := hm.2 c.2.1.toNat (by omega)
  simp only at h3
  omega
/-- Values that are all more by the same: the same clauses hold. -/
theorem brk_up {a m : List Int} {V : Nat} {k : Int} {c : Cl} (hc : clB V c = true) (ha : a.length = V) (hm : PtM m V (fun j => a.getD j 0 + k)) : brkB m c = brkB a c := by
  have pa : PtM a V (fun j => a.getD j 0) := ⟨ha, fun _ _ => rfl⟩
  have q1 := ask_shift (a := a) (m := m) (k := k) hc (fun x hx => by rw [hm.val hx, pa.val hx]; omega)
  have ht := atB_of (clB_of hc).1
  have h3 := hm.2 c.2.1.toNat (by omega)
  simp only at h3
  unfold brkB
  rw [q1, h3]
  congr 1
  exact propext ⟨fun h => by omega, fun h => by omega⟩
theorem brkL_up {a m : List Int} {V : Nat} {k : Int} {l : List Cl} (hl : l.all (clB V) = true) (ha : a.length = V) (hm : PtM m V (fun j => a.getD j 0 + k)) : brkL m l = brkL a l := by
  unfold brkL brkTo
  congr 1
  refine List.filter_congr fun i hi => ?_
  exact brk_up (all_getD hl cl0 (by simpa using hi)) ha hm
/-- The clauses that hold of both. -/
def bothL (a b : List Int) (l : List Cl) : List Cl := l.filter fun c => !brkB a c && !brkB b c
theorem bothL_snoc (a b : List Int) (l : List Cl) (c : Cl) : bothL a b (l ++ [c]) = bothL a b l ++ if (!brkB a c && !brkB b c) = true then [c] else [] := by
  unfold bothL
  rw [List.filter_append]
  congr 1
  by_cases h : (!brkB a c && !brkB b c) = true
  · rw [if_pos h]; simp [List.filter, h]
  · rw [if_neg h]; simp [List.filter, h]
theorem bothL_len (a b : List Int) (l : List Cl) : (bothL a b l).length ≤ l.length := List.length_filter_le _ _
theorem bothL_all {a b : List Int} {V : Nat} {l : List Cl} (hl : l.all (clB V) = true) : (bothL a b l).all (clB V) = true :=
  List.all_eq_true.2 fun c hc => List.all_eq_true.1 hl c (List.mem_filter.1 hc).1
theorem bothL_none {a b m : List Int} {V : Nat} {l : List Cl} (hl : l.all (clB V) = true) (ha : a.length = V) (hb : b.length = V) (hm : PtM m V (fun j => min (a.getD j 0) (b.getD j 0))) : brkL m (bothL a b l) = [] := by
  unfold brkL brkTo
  rw [List.map_eq_nil_iff, List.filter_eq_nil_iff]
  intro i hi
  have hi' : i < (bothL a b l).length := by simpa using hi
  have h1 := getD_mem cl0 hi'
  generalize (bothL a b l).getD i cl0 = c at h1
  obtain ⟨h2, h3⟩ := List.mem_filter.1 h1
  simp only [Bool.and_eq_true, Bool.not_eq_true'] at h3
  rw [brk_least (List.all_eq_true.1 hl c h2) ha hb hm h3.1 h3.2]
  decide
/-- A number that is not among others. -/
def notIn (l : List Int) (i : Int) : Bool := l.all fun x => x != i
theorem notIn_take {l : List Int} {i : Int} {k : Nat} (hk : k < l.length) : notIn (l.take (k + 1)) i = (notIn (l.take k) i && (l.getD k 0 != i)) := by
  unfold notIn
  rw [take_getD l 0 hk, List.all_append]
  simp
theorem notIn_brk {m : List Int} {l : List Cl} {i : Nat} (hi : i < l.length) : notIn (brkL m l) i = !brkB m (l.getD i cl0) := by
  unfold notIn brkL brkTo
  cases hb : brkB m (l.getD i cl0) with
  | true =>
    refine List.all_eq_false.2 ⟨(i : Int), ?_, by simp⟩
    exact List.mem_map.2 ⟨i, List.mem_filter.2 ⟨by simpa using hi, hb⟩, rfl⟩
  | false =>
    refine List.all_eq_true.2 fun x hx => ?_
    obtain ⟨j, hj, rfl⟩ := List.mem_map.1 hx
    have h2 := (List.mem_filter.1 hj).2
    have : j ≠ i := fun e => by subst e; rw [hb] at h2; cases h2
    simp only [bne_iff_ne, ne_eq]
    intro e
    exact this (Int.ofNat.inj e)
end Go.Proofs.Ytnfmcenedohdnaa
