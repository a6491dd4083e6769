/- What Solve tells of clauses, of all but one of them, and of them in another order: plain mathematics. No condition but those that stand in each statement. -/
import Derived.Test.YtkjmhjeebamehaaJfacts
namespace Go.Proofs.Ytkjmhjeebamehaa
open Go.RowKit

theorem mem_less {l : List Cl} {k : Nat} (hk : k < l.length) {d : Cl} : d ∈ l ↔ d ∈ l.take k ++ l.drop (k + 1) ∨ d = l.getD k cl0 := by
  have e : l = l.take k ++ (l.getD k cl0 :: l.drop (k + 1)) := by
    conv => lhs; rw [← List.take_append_drop k l, List.drop_eq_getElem_cons hk]
    rw [List.getD_eq_getElem?_getD, List.getElem?_eq_getElem hk]; rfl
  constructor
  · intro h
    rw [e] at h
    simp only [List.mem_append, List.mem_cons] at h ⊢
    rcases h with h | h | h
    · exact .inl (.inl h)
    · exact .inr h
    · exact .inl (.inr h)
  · intro h
    rw [e]
    simp only [List.mem_append, List.mem_cons] at h ⊢
    rcases h with (h | h) | h
    · exact .inl h
    · exact .inr (.inr h)
    · exact .inr (.inl h)
theorem mem_turned {l : List Cl} {k : Nat} {d : Cl} : d ∈ l ↔ d ∈ l.drop k ++ l.take k := by
  constructor
  · intro h
    rw [← List.take_append_drop k l] at h
    rcases List.mem_append.1 h with h | h
    · exact List.mem_append.2 (.inr h)
    · exact List.mem_append.2 (.inl h)
  · intro h
    rw [← List.take_append_drop k l]
    rcases List.mem_append.1 h with h | h
    · exact List.mem_append.2 (.inr h)
    · exact List.mem_append.2 (.inl h)
theorem hr_sub {V : Nat} {l q : List Cl} (hr : hrB V l = true) (hl : q.length ≤ l.length) (hs : ∀ d ∈ q, d ∈ l) : hrB V q = true := by
  obtain ⟨v1, v2, v3, v4⟩ := hrB_of hr
  exact hrB_mk (by omega) (by omega) (by omega) (List.all_eq_true.2 fun d hd => List.all_eq_true.1 v4 d (hs d hd))
theorem sv_told {V : Nat} {l : List Cl} {a : List Int} {is : Bool} {n er : Int} (hr : hrB V l = true) (h : SvIs V l a is n er) : er = 0 ∧ TellJ l (zerosJ V) (((V : Int) - 1) * mostD 0 l) a is n := by
  rcases h with ⟨_, ht, rfl⟩ | ⟨h, _⟩
  · exact ⟨rfl, ht⟩
  · rw [hr] at h; cases h
theorem more_facts {V k : Nat} {l less turned : List Cl} {a b d : List Int} {is are so : Bool} {n1 n2 n3 e1 e2 e3 : Int} (hr : hrB V l = true) (hk : k < l.length) (hle : less = l.take k ++ l.drop (k + 1)) (htu : turned = l.drop k ++ l.take k)
    (h1 : SvIs V l a is n1 e1) (h2 : SvIs V less b are n2 e2) (h3 : SvIs V turned d so n3 e3) :
    e1 = 0 ∧ e2 = 0 ∧ e3 = 0 ∧ so = is ∧ d = a ∧ (is = true → are = true ∧ a.length = V ∧ b.length = V ∧ natsB b = true ∧ (∀ i, b.getD i 0 ≤ a.getD i 0) ∧ ((∀ i, i < V → b.getD i 0 = a.getD i 0) ↔ ModJ [l.getD k cl0] b)) := by
  have hml : ∀ {d}, d ∈ l ↔ d ∈ less ∨ d = l.getD k cl0 := by rw [hle]; exact mem_less hk
  have hmt : ∀ {d}, d ∈ l ↔ d ∈ turned := by rw [htu]; exact mem_turned
  have hrl : hrB V less = true := hr_sub hr (by rw [hle, List.length_append, List.length_take, List.length_drop]; omega) (fun d hd => hml.2 (.inl hd))
  have hrt : hrB V turned = true := hr_sub hr (by rw [htu, List.length_append, List.length_take, List.length_drop]; omega) (fun d hd => hmt.2 hd)
  obtain ⟨rfl, t1⟩ := sv_told hr h1
  obtain ⟨rfl, t2⟩ := sv_told hrl h2
  obtain ⟨rfl, t3⟩ := sv_told hrt h3
  have s1 := sv_cases hr t1
  have s2 := sv_cases hrl t2
  have s3 := sv_cases hrt t3
  refine ⟨rfl, rfl, rfl, ?_⟩
  rcases s1 with ⟨rfl, l1, k1, _, _⟩ | ⟨rfl, rfl, no1⟩
  · have l3 : LeastJ turned (zerosJ V) a := l1.same (fun d hd => hmt.2 hd) (fun d hd => hmt.1 hd)
    have hsd : so = true ∧ d = a := by
      rcases s3 with ⟨rfl, l3', _⟩ | ⟨_, _, no3⟩
      · exact ⟨rfl, l3'.uniq l3⟩
      · exact absurd l3.2.1 (no3 a l3.1)
    have hmla : ModJ less a := l1.2.1.sub (fun d hd => hml.2 (.inl hd))
    obtain ⟨rfl, l2, k2, nb⟩ : are = true ∧ LeastJ less (zerosJ V) b ∧ b.length = V ∧ natsB b = true := by
      rcases s2 with ⟨rfl, l2, k2, _, nb⟩ | ⟨_, _, no2⟩
      · exact ⟨rfl, l2, k2, nb⟩
      · exact absurd hmla (no2 a l1.1)
    have hba := l2.2.2 a l1.1 hmla
    refine ⟨hsd.1, hsd.2, fun _ => ⟨rfl, k1, k2, nb, hba.2, ?_⟩⟩
    constructor
    · intro h
      have e : b = a := getD_ext (by omega) (fun i => by
        by_cases hi : i < V
        · exact h i hi
        · rw [getD_out (by omega), getD_out (by omega)])
      rw [e]
      intro d hd
      exact l1.2.1 d (hml.2 (.inr (List.mem_singleton.1 hd)))
    · intro h i _
      have hb : ModJ l b := fun d hd => by
        rcases hml.1 hd with hd | hd
        · exact l2.2.1 d hd
        · exact h d (List.mem_singleton.2 hd)
      exact Int.le_antisymm (hba.2 i) ((l1.2.2 b l2.1 hb).2 i)
  · have hsd : so = false ∧ d = [] := by
      rcases s3 with ⟨_, l3, _⟩ | ⟨rfl, rfl, _⟩
      · exact absurd (l3.2.1.sub (fun d hd => hmt.1 hd)) (no1 d l3.1)
      · exact ⟨rfl, rfl⟩
    exact ⟨hsd.1, hsd.2, fun h => by cases h⟩
/-- The one clause that was left out. -/
theorem one_ok {V k : Nat} {l : List Cl} {b : List Int} (hr : hrB V l = true) (hk : k < l.length) (hb : b.length = V) (hn : natsB b = true) : brkOk b [l.getD k cl0] = true :=
  brkOk_mk (hr_sub hr (by simp; omega) (fun d hd => by rw [List.mem_singleton.1 hd]; exact getD_mem cl0 hk)) hb hn
end Go.Proofs.Ytkjmhjeebamehaa
