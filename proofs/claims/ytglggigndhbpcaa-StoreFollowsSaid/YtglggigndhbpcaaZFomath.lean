/- What follows from a store of clauses, as the law StoreFollows asks it: plain mathematics. No condition but those that stand in each statement. -/
import Derived.Test.YtglggigndhbpcaaZLlaw
import Derived.Test.YtglggigndhbpcaaZHbk
namespace Go.Proofs.Ytglggigndhbpcaa
open Go.RowKit

section
variable {V : Nat} {l : List Cl} {m : List Int} {a : At} {b : List At}
theorem atS_of {x : At} (h : atS V x = true) : atB V x = true ∧ x.2 ≤ 3 := by
  unfold atS at h
  simp only [Bool.and_eq_true, decide_eq_true_eq] at h
  exact h
theorem fo_right (h1 : 1 ≤ V) (h2 : V ≤ 16) (ha : atS V a = true) (hb : b.all (atS V) = true) (hb1 : 1 ≤ b.length) (hb3 : b.length ≤ 3) : hrB V [(b, a)] = true ∧ b.any (fun x => decide (1000 ≤ x.2)) = false := by
  refine ⟨hrB_mk h1 h2 (by simp) ?_, ?_⟩
  · simp only [List.all_cons, List.all_nil, Bool.and_true]
    unfold clB frB
    rw [(atS_of ha).1]
    have : b.all (atB V) = true := List.all_eq_true.2 fun x hx => (atS_of (List.all_eq_true.1 hb x hx)).1
    rw [this]
    simp
    omega
  · rw [Bool.eq_false_iff]
    intro h
    obtain ⟨x, hx, h⟩ := List.any_eq_true.1 h
    have := (atS_of (List.all_eq_true.1 hb x hx)).2
    have := of_decide_eq_true h
    omega
theorem fo_ask (hr : rgS V l m = true) (hl : l.length ≤ 30) (h2 : hrB V [(b, a)] = true) (h4 : b.any (fun x => decide (1000 ≤ x.2)) = false) (hb3 : b.length ≤ 3) : folE V l m a b = 0 ∧ folB V l m a b = !posB V (l ++ notK a b) :=
  fol_yes hr h2 (by omega) h4
theorem brk_list {M : List Int} {c : Cl} : (brkB M c = true → brkL M [c] = [0]) ∧ (brkB M c = false → brkL M [c] = []) := by
  constructor
  · intro h; simp [brkL, brkTo, h]
  · intro h; simp [brkL, brkTo, h]
theorem bk_is {M : List Int} (hh : hrB V l = true) (hl : M.length = V) (hn : natsB M = true) : bkR M l = brkL M l ∧ bkE M l = 0 := by
  have : brkOk M l = true := by subst hl; simp [brkOk, hh, hn]
  simp [bkR, bkE, this]
/-- It doesn't follow: what is turned round is added, and breaks it. -/
theorem fo_not (hr : rgS V l m = true) (hl : l.length ≤ 30) (h2 : hrB V [(b, a)] = true) (hb3 : b.length ≤ 3) (hp : posB V (l ++ notK a b) = true) :
    addE V l m (notK a b) = 0 ∧ (bkR (addM V l m (notK a b)) [(b, a)]).length = 1 ∧ bkE (addM V l m (notK a b)) [(b, a)] = 0 := by
  obtain ⟨e1, e2, e3, e4⟩ := ad_yes (k := notK a b) hr (by rw [notK_len]; omega) hp
  obtain ⟨V', e, _, _, _, _, hlen, hn⟩ := lm_of hp
  obtain rfl : V = V' := by omega
  obtain ⟨k1, k2⟩ := bk_is (M := lmK V (l ++ notK a b)) h2 hlen hn
  rw [← e2, ← e4, k1, k2, brk_list.1 (fol_not (ne_of_len (hr_one h2).1) hp)]
  exact ⟨rfl, rfl, rfl⟩
/-- It follows: it makes no difference to the model. -/
theorem fo_same (hr : rgS V l m = true) (hl : l.length ≤ 30) (h2 : hrB V [(b, a)] = true) (h4 : b.any (fun x => decide (1000 ≤ x.2)) = false) (hb3 : b.length ≤ 3) (hp : posB V (l ++ notK a b) = false) :
    addE V l m [(b, a)] = 0 ∧ addM V l m [(b, a)] = m := by
  obtain ⟨hp0, hm⟩ := rgS_of hr
  obtain ⟨q1, q2⟩ := fol_same hp0 h2 (by omega) h4 hp
  obtain ⟨e1, e2, e3, e4⟩ := ad_yes (k := [(b, a)]) hr (by simp; omega) q1
  exact ⟨e4.symm, by rw [← e2, q2, ← hm]⟩
/-- It holds of each model. -/
theorem fo_holds (hr : rgS V l m = true) (hl : l.length ≤ 30) (h2 : hrB V [(b, a)] = true) (h4 : b.any (fun x => decide (1000 ≤ x.2)) = false) (hb3 : b.length ≤ 3) (hp : posB V (l ++ notK a b) = false) {M : List Int} (hM : M.length = V) (hn : natsB M = true) :
    bkE M l = 0 ∧ (bkR M l = [] → bkR M [(b, a)] = []) := by
  have hh := (rgS_bd hr).2.2.2.1
  obtain ⟨k1, k2⟩ := bk_is (M := M) hh hM hn
  obtain ⟨k3, k4⟩ := bk_is (M := M) h2 hM hn
  rw [k1, k3]
  refine ⟨k2, fun h => brk_list.2 (fol_holds hh h2 (by omega) h4 hp (zerosJ_le hM hn) (brkL_none.1 h))⟩
/-- With more clauses it follows still. -/
theorem fo_more (hr : rgS V l m = true) (hl : l.length ≤ 30) (h2 : hrB V [(b, a)] = true) (h4 : b.any (fun x => decide (1000 ≤ x.2)) = false) (hb3 : b.length ≤ 3) (hp : posB V (l ++ notK a b) = false) {d : List Cl} (hd : d.all (clB V) = true) (hd5 : d.length ≤ 5) :
    addE V l m d = 30 ∨ (addE V l m d = 0 ∧ (addL V l m d).length ≤ l.length + 5 ∧ (∀ c ∈ addL V l m d, c.1.length ≤ 1000) ∧ (addM V l m d).length ≤ 16 ∧ folE V (addL V l m d) (addM V l m d) a b = 0 ∧ folB V (addL V l m d) (addM V l m d) a b = true) := by
  obtain ⟨_, _, _, hh, v1, v2, _⟩ := rgS_bd hr
  obtain ⟨_, _, h3', h4'⟩ := hrB_of hh
  have hlen : ¬ 60 < l.length + d.length := by omega
  have hr2 : hrB V (l ++ d) = true := hrB_mk v1 v2 (by rw [List.length_append]; omega) (by rw [List.all_append, h4', hd]; rfl)
  cases hq : posB V (l ++ d) with
  | false =>
    obtain ⟨_, _, _, e4⟩ := ad_loop (k := d) hr hlen hr2 hq
    exact .inl e4.symm
  | true =>
    obtain ⟨e1, e2, e3, e4⟩ := ad_yes (k := d) hr hlen hq
    have hr3 := add_right (k := d) hr
    have hbd := rgS_bd hr3
    have hL : (addL V l m d).length ≤ l.length + 5 := by rw [← e1, List.length_append]; omega
    obtain ⟨f1, f2⟩ := fol_yes (a := a) (b := b) hr3 h2 (by omega) h4
    refine .inr ⟨e4.symm, hL, six_le hr3, by have := hbd.1; omega, f1, ?_⟩
    rw [f2, ← e1, fol_more hp (hr_not hh h2 (by omega) h4)]
    rfl
end
end Go.Proofs.Ytglggigndhbpcaa
