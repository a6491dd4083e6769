/- The value of a level with others in the place of its parameters and unknowns: it is the level's own, by the values of the others. Conditions: those of each statement. -/
import Derived.Test.YtmbopdlmkbbbiaaSsub
import Derived.Test.YtmbopdlmkbbbiaaREval
namespace Go.Proofs.Ytmbopdlmkbbbiaa
open Go

theorem vals_app (ps ms : List Int) : ∀ f g : Fo, vals ps ms (f.app g) = vals ps ms f ++ vals ps ms g
  | .nil, _ => rfl
  | .cons k n ks r, g => by
    show vNode ps ms k n (vals ps ms ks) :: vals ps ms (r.app g) = vNode ps ms k n (vals ps ms ks) :: (vals ps ms r ++ vals ps ms g)
    rw [vals_app ps ms r g]
theorem vals_get (ps ms : List Int) : ∀ (F : Fo) (i : Nat), i < F.len → vals ps ms (F.get i) = [(vals ps ms F).getD i 0]
  | .nil, _, h => by simp [Fo.len] at h
  | .cons k n ks r, 0, _ => rfl
  | .cons k n ks r, i + 1, h => by
    show vals ps ms (r.get i) = [(vNode ps ms k n (vals ps ms ks) :: vals ps ms r).getD (i + 1) 0]
    rw [vals_get ps ms r i (by simp [Fo.len] at h; omega)]
    simp [List.getD_eq_getElem?_getD]
/-- The first values are others. -/
def upd (xs vs : List Int) : List Int := vs ++ xs.drop vs.length
theorem upd_lo (xs vs : List Int) {i : Nat} (h : i < vs.length) : (upd xs vs).getD i 0 = vs.getD i 0 := by simp [upd, List.getD_eq_getElem?_getD, List.getElem?_append_left h]
theorem upd_hi (xs vs : List Int) {i : Nat} (h : ¬ i < vs.length) : (upd xs vs).getD i 0 = xs.getD i 0 := by
  simp only [upd, List.getD_eq_getElem?_getD]
  rw [List.getElem?_append_right (by omega), List.getElem?_drop, show vs.length + (i - vs.length) = i by omega]
theorem vNode_sb (x y : List Int) (P Q : Fo) (k n : Int) (hn : 0 ≤ n) (ks : Fo) : vals x y (sb1 P Q k n ks) = [vNode (upd x (vals x y P)) (upd y (vals x y Q)) k n (vals x y ks)] := by
  unfold sb1 sv
  by_cases h5 : k = 5
  · subst h5
    by_cases hp : n < P.len
    · rw [if_pos ⟨rfl, hp⟩]
      show vals x y (P.get n.toNat) = _
      rw [vals_get x y P n.toNat (by omega), vNode_5, upd_lo _ _ (by rw [vals_len]; omega)]
    · rw [if_neg (fun h => hp h.2), if_neg (fun h => by cases h.1)]
      show [vNode x y 5 n (vals x y ks)] = _
      rw [vNode_5, vNode_5, upd_hi _ _ (by rw [vals_len]; omega)]
  · by_cases h6 : k = 6
    · subst h6
      by_cases hq : n < Q.len
      · rw [if_neg (fun h => by cases h.1), if_pos ⟨rfl, hq⟩]
        show vals x y (Q.get n.toNat) = _
        rw [vals_get x y Q n.toNat (by omega), vNode_6, upd_lo _ _ (by rw [vals_len]; omega)]
      · rw [if_neg (fun h => by cases h.1), if_neg (fun h => hq h.2)]
        show [vNode x y 6 n (vals x y ks)] = _
        rw [vNode_6, vNode_6, upd_hi _ _ (by rw [vals_len]; omega)]
    · rw [if_neg (fun h => h5 h.1), if_neg (fun h => h6 h.1)]
      show [vNode x y k n (vals x y ks)] = _
      unfold vNode
      simp only [h5, h6, if_false]
theorem vals_sb (x y : List Int) (P Q : Fo) : ∀ f : Fo, noneg f → vals x y (sbF P Q f) = vals (upd x (vals x y P)) (upd y (vals x y Q)) f
  | .nil, _ => rfl
  | .cons k n ks r, h => by
    show vals x y ((sb1 P Q k n (sbF P Q ks)).app (sbF P Q r)) = vNode _ _ k n (vals _ _ ks) :: vals _ _ r
    rw [vals_app, vNode_sb x y P Q k n h.1, vals_sb x y P Q ks h.2.1, vals_sb x y P Q r h.2.2]
    rfl
/-- THE THEOREM of the layer, in plain words. -/
theorem value_sb (x y : List Int) {P Q : Fo} {k n : Int} {f : Fo} (hn : 0 ≤ n) (hf : noneg f) {k2 n2 : Int} {F2 : Fo} (hT : sb1 P Q k n (sbF P Q f) = .cons k2 n2 F2 .nil) :
    vNode x y k2 n2 (vals x y F2) = vNode (upd x (vals x y P)) (upd y (vals x y Q)) k n (vals (upd x (vals x y P)) (upd y (vals x y Q)) f) := by
  have h1 := vNode_sb x y P Q k n hn (sbF P Q f)
  rw [hT, vals_sb x y P Q f hf] at h1
  have h2 : vals x y (.cons k2 n2 F2 .nil) = [vNode x y k2 n2 (vals x y F2)] := rfl
  rw [h2] at h1
  injection h1

/-- A value by small ones is small. -/
theorem vNode_low {ps ms vs : List Int} (hp : ∀ i, 0 ≤ ps.getD i 0) (hm : ∀ i, 0 ≤ ms.getD i 0) (hv : ∀ i, 0 ≤ vs.getD i 0) (k n : Int) : 0 ≤ vNode ps ms k n vs := by
  have h0 := hv 0
  have h1 := hv 1
  have h2 := hp n.toNat
  have h3 := hm n.toNat
  unfold vNode
  repeat' split
  all_goals omega
theorem vals_low {ps ms : List Int} (hp : ∀ i, 0 ≤ ps.getD i 0) (hm : ∀ i, 0 ≤ ms.getD i 0) : ∀ (f : Fo) (i : Nat), 0 ≤ (vals ps ms f).getD i 0
  | .nil, i => by simp [vals]
  | .cons k n ks r, 0 => vNode_low hp hm (vals_low hp hm ks) k n
  | .cons k n ks r, i + 1 => vals_low hp hm r i
theorem vNode_high {ps ms vs : List Int} {D : Int} (hD : 0 ≤ D) (hp : ∀ i, ps.getD i 0 ≤ 8) (hm : ∀ i, ms.getD i 0 ≤ 8) (hv : ∀ i, vs.getD i 0 ≤ 8 + D) (k n : Int) : vNode ps ms k n vs ≤ 8 + D + 1 := by
  have h0 := hv 0
  have h1 := hv 1
  have h2 := hp n.toNat
  have h3 := hm n.toNat
  unfold vNode
  repeat' split
  all_goals omega
theorem vals_high {p m : Int} {ps ms : List Int} (hp : ∀ i, ps.getD i 0 ≤ 8) (hm : ∀ i, ms.getD i 0 ≤ 8) : ∀ (f : Fo) (d : Int), rAll p m f d = true → 0 ≤ d → ∀ i, (vals ps ms f).getD i 0 ≤ 8 + d
  | .nil, d, _, hd, i => by simp [vals]; omega
  | .cons k n ks r, d, h, hd, 0 => by
    unfold rAll at h
    rw [Bool.and_eq_true] at h
    obtain ⟨hd1, _, _, _, hks⟩ := node_parts h.1
    have := vNode_high (D := d - 1) (by omega) hp hm (vals_high hp hm ks (d - 1) hks (by omega)) k n
    show vNode ps ms k n (vals ps ms ks) ≤ 8 + d
    omega
  | .cons k n ks r, d, h, hd, i + 1 => by
    unfold rAll at h
    rw [Bool.and_eq_true] at h
    exact vals_high hp hm r d h.2 hd i
theorem allR_vals {ps ms : List Int} (hp : ∀ i, 0 ≤ ps.getD i 0 ∧ ps.getD i 0 ≤ 8) (hm : ∀ i, 0 ≤ ms.getD i 0 ∧ ms.getD i 0 ≤ 8) : ∀ (F : Fo), allR F = true → ∀ i, 0 ≤ (vals ps ms F).getD i 0 ∧ (vals ps ms F).getD i 0 ≤ 20
  | .nil, _, i => by simp [vals]
  | .cons k n ks r, h, 0 => by
    simp only [allR, Bool.and_eq_true] at h
    have h1 := right_node h.1
    obtain ⟨_, _, _, _, hks⟩ := node_parts h1
    have h2 := vNode_high (D := 11) (by omega) (fun i => (hp i).2) (fun i => (hm i).2) (fun i => vals_high (fun i => (hp i).2) (fun i => (hm i).2) ks 11 (by simpa using hks) (by omega) i) k n
    exact ⟨vals_low (fun i => (hp i).1) (fun i => (hm i).1) (.cons k n ks r) 0, by show vNode ps ms k n (vals ps ms ks) ≤ 20; omega⟩
  | .cons k n ks r, h, i + 1 => by
    simp only [allR, Bool.and_eq_true] at h
    exact allR_vals hp hm r h.2 i
theorem natsB_of {l : List Int} (h : ∀ i, 0 ≤ l.getD i 0 ∧ l.getD i 0 ≤ 20) : natsB l = true := by
  unfold natsB
  rw [List.all_eq_true]
  intro x hx
  obtain ⟨i, hi, rfl⟩ := List.mem_iff_getElem.1 hx
  have := h i
  rw [List.getD_eq_getElem?_getD, List.getElem?_eq_getElem hi] at this
  simp only [Option.getD_some] at this
  simp only [Bool.and_eq_true, decide_eq_true_eq]
  omega
theorem upd_ok {xs vs : List Int} (hx : ∀ i, 0 ≤ xs.getD i 0 ∧ xs.getD i 0 ≤ 8) (hv : ∀ i, 0 ≤ vs.getD i 0 ∧ vs.getD i 0 ≤ 20) (i : Nat) : 0 ≤ (upd xs vs).getD i 0 ∧ (upd xs vs).getD i 0 ≤ 20 := by
  by_cases h : i < vs.length
  · rw [upd_lo _ _ h]; exact hv i
  · rw [upd_hi _ _ h]; have := hx i; omega
theorem upd_len {xs vs : List Int} (h : vs.length ≤ xs.length) : (upd xs vs).length = xs.length := by simp [upd]; omega
/-- One more value is set. -/
theorem upd_step {xs vs : List Int} {j : Nat} (hj : j < vs.length) (hl : vs.length ≤ xs.length) : (upd xs (vs.take j)).set j (vs.getD j 0) = upd xs (vs.take (j + 1)) := by
  have e1 : (vs.take j).length = j := by simp; omega
  have e2 : (vs.take (j + 1)).length = j + 1 := by simp; omega
  unfold upd
  rw [e1, e2, List.set_append_right _ _ (by omega), e1, Nat.sub_self]
  have h3 : xs.drop j = xs[j] :: xs.drop (j + 1) := List.drop_eq_getElem_cons (by omega)
  rw [h3, List.set_cons_zero, List.take_add_one, List.getElem?_eq_getElem hj, List.append_assoc]
  simp [List.getD_eq_getElem?_getD, hj]
end Go.Proofs.Ytmbopdlmkbbbiaa
