/- What is left has no model, and no part of it is without one: plain mathematics (K3). No condition but those that stand in each statement. -/
import Derived.Test.YtnfmcenedohdnaaKspec
namespace Go.Proofs.Ytnfmcenedohdnaa
open Go.RowKit

theorem uptoK_at : ∀ {n i : Nat}, i < n → (uptoK n).getD i 0 = (i : Int)
  | n + 1, i, h => by
    unfold uptoK
    rw [List.getD_eq_getElem?_getD]
    by_cases e : i < n
    · rw [List.getElem?_append_left (by rw [uptoK_len]; exact e), ← List.getD_eq_getElem?_getD]
      exact uptoK_at e
    · obtain rfl : i = n := by omega
      rw [List.getElem?_append_right (by rw [uptoK_len]; exact Nat.le_refl _), uptoK_len, Nat.sub_self]
      rfl
theorem pick_all (l : List Cl) : pickL l (uptoK l.length) = l := by
  refine List.ext_getElem (by rw [pickL_len, uptoK_len]) fun i h1 h2 => ?_
  have e : (uptoK l.length)[i]'(by rw [uptoK_len]; exact h2) = (i : Int) := by
    have := uptoK_at h2
    rwa [List.getD_eq_getElem?_getD, List.getElem?_eq_getElem (by rw [uptoK_len]; exact h2), Option.getD_some] at this
  simp only [pickL, List.getElem_map, e, Int.toNat_natCast]
  rw [List.getD_eq_getElem?_getD, List.getElem?_eq_getElem h2]
  rfl
/-- Ascending. -/
def Asc (ps : List Int) : Prop := ps.Pairwise (· < ·)
theorem uptoK_asc : ∀ n, Asc (uptoK n)
  | 0 => List.Pairwise.nil
  | n + 1 => by
    refine List.pairwise_append.2 ⟨uptoK_asc n, List.pairwise_singleton _ _, fun a ha b hb => ?_⟩
    rw [List.mem_singleton.1 hb]
    exact (uptoK_mem.1 ha).2
theorem lessK_asc {i : Int} {ps : List Int} (h : Asc ps) : Asc (lessK i ps) := List.Pairwise.filter _ h
theorem coreK_asc (vars : Int) (l : List Cl) : ∀ i, Asc (coreK vars l i)
  | 0 => uptoK_asc _
  | i + 1 => by
    have ih := coreK_asc vars l i
    unfold coreK
    split
    · exact ih
    · exact lessK_asc ih
theorem asc_ok {n : Nat} {ps : List Int} (h : Asc ps) (hi : InP n ps) : okP n ps := fun k hk => by
  have hm := hi _ (getD_mem 0 hk)
  simp only [okK, Bool.and_eq_true, Bool.or_eq_true, decide_eq_true_eq]
  refine ⟨⟨hm.1, hm.2⟩, ?_⟩
  rcases Nat.eq_zero_or_pos k with h0 | h0
  · exact .inl h0
  · right
    have := List.pairwise_iff_getElem.1 h (k - 1) k (by omega) hk (by omega)
    rw [List.getD_eq_getElem?_getD, List.getD_eq_getElem?_getD, List.getElem?_eq_getElem hk, List.getElem?_eq_getElem (show k - 1 < ps.length by omega)]
    exact this
/-- All but the i-th. -/
theorem less_at {ps : List Int} (h : Asc ps) {i : Nat} (hi : i < ps.length) : lessK (ps.getD i 0) ps = ps.take i ++ ps.drop (i + 1) := by
  have e : ps = ps.take i ++ (ps.getD i 0 :: ps.drop (i + 1)) := by
    conv => lhs; rw [← List.take_append_drop i ps, List.drop_eq_getElem_cons hi]
    rw [List.getD_eq_getElem?_getD, List.getElem?_eq_getElem hi]; rfl
  have h2 := h
  unfold Asc at h2
  rw [e] at h2
  obtain ⟨_, p2, p3⟩ := List.pairwise_append.1 h2
  obtain ⟨p4, _⟩ := List.pairwise_cons.1 p2
  generalize ps.getD i 0 = a at e p3 p4 ⊢
  conv => lhs; rw [e]
  unfold lessK
  rw [List.filter_append, List.filter_cons_of_neg (by simp), List.filter_eq_self.2 (fun x hx => by have := p3 x hx a (by simp); simp; omega), List.filter_eq_self.2 (fun x hx => by have := p4 x hx; simp; omega)]
/-- Nothing that remains is new. -/
theorem coreK_sub (vars : Int) (l : List Cl) {i : Nat} : ∀ {j : Nat}, i ≤ j → ∀ p ∈ coreK vars l j, p ∈ coreK vars l i
  | 0, h, p, hp => by
    obtain rfl : i = 0 := by omega
    exact hp
  | j + 1, h, p, hp => by
    by_cases e : i = j + 1
    · subst e; exact hp
    · refine coreK_sub vars l (j := j) (by omega) p ?_
      unfold coreK at hp
      split at hp
      · exact hp
      · exact (List.mem_filter.1 hp).1
/-- What remains has no model. -/
theorem coreK_none {vars : Int} {l : List Cl} (h : posB vars l = false) : ∀ i, posB vars (pickL l (coreK vars l i)) = false
  | 0 => by show posB vars (pickL l (uptoK l.length)) = false; rw [pick_all]; exact h
  | i + 1 => by
    have ih := coreK_none h i
    unfold coreK
    cases hp : posB vars (pickL l (lessK i (coreK vars l i))) with
    | true => rw [if_pos rfl]; exact ih
    | false => rw [if_neg (by decide)]; exact hp
/-- Without any one of them there is one. -/
theorem coreK_least {vars : Int} {l : List Cl} (hr : hrB vars l = true) {p : Int} (hp : p ∈ coreK vars l l.length) : posB vars (pickL l (lessK p (coreK vars l l.length))) = true := by
  have hpr := coreK_in vars l l.length p hp
  obtain ⟨i, rfl⟩ : ∃ i : Nat, p = (i : Int) := ⟨p.toNat, by omega⟩
  have hi : i < l.length := by omega
  have h1 := coreK_sub vars l (i := i + 1) (j := l.length) (by omega) _ hp
  have hpos : posB vars (pickL l (lessK i (coreK vars l i))) = true := by
    cases hq : posB vars (pickL l (lessK i (coreK vars l i))) with
    | true => rfl
    | false =>
      exfalso
      unfold coreK at h1
      rw [hq, if_neg (by decide)] at h1
      have := (List.mem_filter.1 h1).2
      simp at this
  refine posB_sub (hr_pick hr (lessK_in (coreK_in vars l _)) (Nat.le_trans (lessK_len _ _) (coreK_len vars l _))) hpos fun c hc => ?_
  obtain ⟨q, hq, rfl⟩ := List.mem_map.1 hc
  obtain ⟨q1, q2⟩ := List.mem_filter.1 hq
  exact List.mem_map.2 ⟨q, List.mem_filter.2 ⟨coreK_sub vars l (i := i) (j := l.length) (by omega) q q1, q2⟩, rfl⟩
theorem posB_nil {vars : Int} {l : List Cl} (hr : hrB vars l = true) : posB vars (pickL l []) = true := by
  have h : hrB vars (pickL l []) = true := hr_pick hr (fun p hp => by cases hp) (Nat.zero_le _)
  obtain ⟨v1, v2, v3, v4⟩ := hrB_of h
  unfold posB
  rw [h, Bool.true_and]
  exact @decide_eq_true _ (Classical.propDecidable _) ⟨zerosJ vars.toNat, LeM.refl _, fun c hc => by cases hc⟩
/-- K3: nothing is told just if there is a model. -/
theorem coreR_nil {vars : Int} {l : List Cl} (hr : hrB vars l = true) : (coreR vars l).length = 0 ↔ posB vars l = true := by
  unfold coreR
  rw [if_pos hr]
  cases hp : posB vars l with
  | true => simp
  | false =>
    rw [if_neg (by decide)]
    refine ⟨fun h => ?_, fun h => by cases h⟩
    have := coreK_none hp l.length
    rw [List.eq_nil_of_length_eq_zero h, posB_nil hr] at this
    cases this
theorem coreR_in (vars : Int) (l : List Cl) : InP l.length (coreR vars l) := by
  unfold coreR
  split
  · split
    · intro p hp; cases hp
    · exact coreK_in vars l _
  · intro p hp; cases hp
theorem coreR_asc (vars : Int) (l : List Cl) : Asc (coreR vars l) := by
  unfold coreR
  split
  · split
    · exact List.Pairwise.nil
    · exact coreK_asc vars l _
  · exact List.Pairwise.nil
theorem coreR_len (vars : Int) (l : List Cl) : (coreR vars l).length ≤ l.length := by
  unfold coreR
  split
  · split
    · exact Nat.zero_le _
    · exact coreK_len vars l _
  · exact Nat.zero_le _
/-- K3: what is told proves it. -/
theorem coreR_proves {vars : Int} {l : List Cl} (hr : hrB vars l = true) : provB vars l (coreR vars l) = !posB vars l := by
  have hok : okP l.length (coreR vars l) := asc_ok (coreR_asc vars l) (coreR_in vars l)
  unfold provB
  rw [hr, decide_eq_true hok]
  simp only [Bool.true_and]
  congr 1
  unfold coreR
  rw [if_pos hr]
  cases hp : posB vars l with
  | true => rw [if_pos rfl]; exact posB_nil hr
  | false => rw [if_neg (by decide)]; exact coreK_none hp _
/-- K3: no part of it does. -/
theorem coreR_part {vars : Int} {l : List Cl} (hr : hrB vars l = true) {i : Nat} (hi : i < (coreR vars l).length) : provB vars l ((coreR vars l).take i ++ (coreR vars l).drop (i + 1)) = false := by
  rw [← less_at (coreR_asc vars l) hi]
  have hm := getD_mem 0 hi
  generalize (coreR vars l).getD i 0 = p at hm ⊢
  unfold provB
  have h2 : posB vars (pickL l (lessK p (coreR vars l))) = true := by
    unfold coreR at hm ⊢
    rw [if_pos hr] at hm ⊢
    cases hp : posB vars l with
    | true => rw [hp, if_pos rfl] at hm; cases hm
    | false =>
      rw [hp, if_neg (by decide)] at hm
      rw [if_neg (by decide)]
      exact coreK_least hr hm
  rw [h2]
  simp
end Go.Proofs.Ytnfmcenedohdnaa
