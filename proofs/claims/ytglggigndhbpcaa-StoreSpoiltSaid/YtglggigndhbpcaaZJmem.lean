/- Arrays of sixteen numbers that hold a model, in memory; how they are compared; the greatest of some numbers. No condition but those that stand in each statement. -/
import Derived.Test.YtglggigndhbpcaaZBase
import Derived.ChangeKeysEq
namespace Go.Proofs.Ytglggigndhbpcaa
open Go.RowKit

def arrI (f : Nat → Int) : Array Value := #[.int .i64 (f 0), .int .i64 (f 1), .int .i64 (f 2), .int .i64 (f 3), .int .i64 (f 4), .int .i64 (f 5), .int .i64 (f 6), .int .i64 (f 7), .int .i64 (f 8), .int .i64 (f 9), .int .i64 (f 10), .int .i64 (f 11), .int .i64 (f 12), .int .i64 (f 13), .int .i64 (f 14), .int .i64 (f 15)]
theorem arrI_at (f : Nat → Int) : ∀ i, i < 16 → (arrI f)[i]? = some (.int .i64 (f i))
  | 0, _ => rfl
  | 1, _ => rfl
  | 2, _ => rfl
  | 3, _ => rfl
  | 4, _ => rfl
  | 5, _ => rfl
  | 6, _ => rfl
  | 7, _ => rfl
  | 8, _ => rfl
  | 9, _ => rfl
  | 10, _ => rfl
  | 11, _ => rfl
  | 12, _ => rfl
  | 13, _ => rfl
  | 14, _ => rfl
  | 15, _ => rfl
  | i + 16, h => by omega
theorem arrI_size (f : Nat → Int) : (arrI f).size = 16 := rfl
theorem arrI_set (f : Nat → Int) (j : Nat) (z : Int) (hj : j < 16) : (arrI f).setIfInBounds j (.int .i64 z) = arrI (fun i => if i = j then z else f i) := by
  refine Array.ext (by simp [arrI_size]) fun i h1 h2 => ?_
  have hi : i < 16 := by simpa [arrI_size] using h2
  have e2 := arrI_at (fun i => if i = j then z else f i) i hi
  have e1 := arrI_at f i hi
  rw [Array.getElem?_eq_getElem h2] at e2
  injection e2 with e2
  rw [e2]
  by_cases e : i = j
  · subst e; simp
  · rw [Array.getElem_setIfInBounds_ne (by simpa using h1) (Ne.symm e)]
    rw [Array.getElem?_eq_getElem (by rw [arrI_size]; exact hi)] at e1
    injection e1 with e1
    rw [e1, if_neg e]
theorem arrI_congr {f g : Nat → Int} (h : ∀ i, i < 16 → f i = g i) : arrI f = arrI g := by
  unfold arrI
  rw [h 0 (by decide), h 1 (by decide), h 2 (by decide), h 3 (by decide), h 4 (by decide), h 5 (by decide), h 6 (by decide), h 7 (by decide), h 8 (by decide), h 9 (by decide), h 10 (by decide), h 11 (by decide), h 12 (by decide), h 13 (by decide), h 14 (by decide), h 15 (by decide)]
/-- Sixteen cells set, one behind the other. -/
def setI (W : World) (b : Nat) (f : Nat → Int) : Nat → World
  | 0 => W
  | n + 1 => (setI W b f n).setCell ⟨b, n, none⟩ (.int .i64 (f n))
theorem setI_grown (W : World) (b : Nat) (f : Nat → Int) : ∀ n, W.grownBy (setI W b f n) (some b)
  | 0 => Only.refl W b
  | n + 1 => Only.after (setI_grown W b f n) (Only.set _ _ _ _)
theorem setI_cells (W : World) (b : Nat) (f g : Nat → Int) (t : TypeId) (h : W.heap[b]? = some (.cells (arrI g) t (0, 0))) : ∀ n, n ≤ 16 → (setI W b f n).heap[b]? = some (.cells (arrI (fun i => if i < n then f i else g i)) t (0, 0))
  | 0, _ => by rw [arrI_congr (g := g) (fun i _ => by simp)]; exact h
  | n + 1, hn => by
    have ih := setI_cells W b f g t h n (by omega)
    have h2 : (setI W b f (n + 1)).heap[b]? = some (.cells ((arrI (fun i => if i < n then f i else g i)).setIfInBounds n (.int .i64 (f n))) t (0, 0)) := heap_setCell_same _ _ n _ _ _ ih
    rw [h2, arrI_set _ _ _ (by omega)]
    congr 2
    refine arrI_congr fun i _ => ?_
    by_cases e : i = n
    · subst e; simp
    · by_cases e2 : i < n
      · simp [e, e2, show i < n + 1 by omega]
      · simp [e, e2, show ¬ i < n + 1 by omega]
theorem setI_all (W : World) (b : Nat) (f g : Nat → Int) (t : TypeId) (h : W.heap[b]? = some (.cells (arrI g) t (0, 0))) : (setI W b f 16).heap[b]? = some (.cells (arrI f) t (0, 0)) := by
  rw [setI_cells W b f g t h 16 (Nat.le_refl _), arrI_congr (g := f) (fun i hi => by simp [hi])]

/-- A model in an array. -/
def aM (m : List Int) : Array Value := arrI fun i => m.getD i 0
theorem aM_at (m : List Int) {i : Nat} (hi : i < 16) : (aM m)[i]? = some (.int .i64 (m.getD i 0)) := arrI_at _ i hi
theorem aM_set {m : List Int} {j : Nat} (z : Int) (hj : j < m.length) (hm : m.length ≤ 16) : (aM m).setIfInBounds j (.int .i64 z) = aM (m.set j z) := by
  unfold aM
  rw [arrI_set _ _ _ (by omega)]
  exact arrI_congr fun i _ => (getD_set z hj i).symm
theorem aM_eq {a b : List Int} (hl : a.length = b.length) (hm : a.length ≤ 16) (h : ∀ i, i < 16 → a.getD i 0 = b.getD i 0) : a = b := getD_ext hl fun i => by
  by_cases hi : i < 16
  · exact h i hi
  · rw [getD_out (by omega), getD_out (by omega)]
/-- The model, filled up with noughts. -/
def pad (m : List Int) : List Int := (List.range 16).map fun i => m.getD i 0
theorem pad_len (m : List Int) : (pad m).length = 16 := by simp [pad]
theorem pad_at {m : List Int} (hm : m.length ≤ 16) (i : Nat) : (pad m).getD i 0 = m.getD i 0 := by
  by_cases hi : i < 16
  · unfold pad
    rw [List.getD_eq_getElem?_getD, List.getElem?_map, List.getElem?_range hi]; rfl
  · rw [getD_out (by rw [pad_len]; omega), getD_out (by omega)]
theorem pad_in {w : World} {P : Nat → Prop} {b : Nat} {m : List Int} {t : TypeId} (h : w.heap[b]? = some (.cells (aM m) t (0, 0))) (hm : m.length ≤ 16) (hP : P b) : IntsIn w P (pad m) (some ⟨b, 0, none⟩) 16 :=
  IntsIn.mk (by rw [pad_len]; exact Nat.le_refl _) (by decide) hP fun i hi => by
    rw [pad_len] at hi
    rw [pad_at hm, Nat.zero_add]
    exact (cell_at h i).trans (aM_at m hi)
/-- The first of them, as a slice of the array. -/
theorem low_in {w : World} {P : Nat → Prop} {b : Nat} {m : List Int} {t : TypeId} (h : w.heap[b]? = some (.cells (aM m) t (0, 0))) (hm : m.length ≤ 16) (hP : P b) : IntsIn w P m (some ⟨b, 0, none⟩) 16 :=
  IntsIn.mk hm (by decide) hP fun i hi => by
    rw [Nat.zero_add]
    exact (cell_at h i).trans (aM_at m (by omega))
theorem lowA_congr {m n : List Int} (h : ∀ i, m.getD i 0 = n.getD i 0) : ∀ (l : List At) (s : Int), lowA m s l = lowA n s l
  | [], _ => rfl
  | x :: r, s => by
    have e : valA m x = valA n x := by unfold valA; rw [h]
    show lowA m (min s (valA m x)) r = lowA n (min s (valA n x)) r
    rw [e]; exact lowA_congr h r _
theorem ask_pad {m : List Int} (hm : m.length ≤ 16) (c : Cl) : askC c (pad m) = askC c m := by
  unfold askC
  rw [lowA_congr (pad_at hm), show valA (pad m) (c.1.getD 0 at0) = valA m (c.1.getD 0 at0) by unfold valA; rw [pad_at hm]]
theorem pad_nats {m : List Int} (hm : m.length ≤ 16) (h : ∀ i, 0 ≤ m.getD i 0 ∧ m.getD i 0 ≤ 1099511627776) : natsB (pad m) = true := by
  refine List.all_eq_true.2 fun x hx => ?_
  obtain ⟨i, hi, rfl⟩ := List.getElem_of_mem hx
  have h1 := pad_at hm i
  rw [List.getD_eq_getElem?_getD, List.getElem?_eq_getElem hi, Option.getD_some] at h1
  rw [h1]
  simpa using h i
theorem nats_of {m : List Int} (h : ∀ i, 0 ≤ m.getD i 0 ∧ m.getD i 0 ≤ 1099511627776) : natsB m = true := by
  refine List.all_eq_true.2 fun x hx => ?_
  obtain ⟨i, hi, rfl⟩ := List.getElem_of_mem hx
  have h1 := h i
  rw [List.getD_eq_getElem?_getD, List.getElem?_eq_getElem hi, Option.getD_some] at h1
  simpa using h1
theorem clB_more {V V' : Int} {c : Cl} (hV : V ≤ V') (h : clB V c = true) : clB V' c = true := by
  have at1 : ∀ x, atB V x = true → atB V' x = true := fun x hx => by
    have := atB_of hx
    simp only [atB, Bool.and_eq_true, decide_eq_true_eq]
    omega
  obtain ⟨h1, h2, h3⟩ := clB_of h
  simp only [clB, Bool.and_eq_true]
  exact ⟨at1 _ h1, h2, List.all_eq_true.2 fun x hx => at1 x (List.all_eq_true.1 h3 x hx)⟩

/-- Two arrays of sixteen numbers: are they the same? -/
def eq16 (f g : Nat → Int) : Bool := (List.range 16).all fun i => f i == g i
theorem eq16_is {a b : List Int} (hl : a.length = b.length) (hm : a.length ≤ 16) : eq16 (fun i => a.getD i 0) (fun i => b.getD i 0) = decide (a = b) := by
  by_cases e : a = b
  · subst e
    rw [decide_eq_true rfl]
    exact List.all_eq_true.2 fun i _ => by simp
  · rw [decide_eq_false e]
    cases h : eq16 (fun i => a.getD i 0) (fun i => b.getD i 0) with
    | false => rfl
    | true => exact absurd (aM_eq hl hm fun i hi => by have := List.all_eq_true.1 h i (by simpa using hi); simpa using this) e
theorem undVals : Try.prog.underlying 97 = some (.array 16 3) := by kernel_rfl
theorem j_infoInt : (Try.prog.info? 3).map (fun i => (i.zero, i.size, i.bytes)) = some (some (.int .i64 0), 1, 8) := by kernel_rfl
theorem j_cellsInt : Try.prog.cellsOf 3 = 1 := by kernel_rfl
theorem j_plainInt : Try.prog.plainKey 3 = true := by kernel_rfl
theorem eq_int (d : Nat) (a b : Int) (w : World) : (Op.equalIn (d + 1) 3 (.int .i64 a) (.int .i64 b)).run Try.prog w = .ok (a == b) w := by
  simp [Op.equalIn, run_underlying Try.underlying3]
theorem run_itemsI (d : Nat) (f g : Nat → Int) (w : World) : ∀ is : List Nat, (∀ i ∈ is, i < 16) → (Op.eqItems (d + 1) 3 1 (arrI f) (arrI g) is).run Try.prog w = .ok (is.all fun i => f i == g i) w
  | [], _ => by simp [Op.eqItems]
  | i :: is, h => by
    have hi : i < 16 := h i (by simp)
    have p1 : (part 3 (arrI f) (i * 1)).run Try.prog w = .ok (.int .i64 (f i)) w := run_part_plain w j_plainInt (by rw [Nat.mul_one]; exact arrI_at f i hi)
    have p2 : (part 3 (arrI g) (i * 1)).run Try.prog w = .ok (.int .i64 (g i)) w := run_part_plain w j_plainInt (by rw [Nat.mul_one]; exact arrI_at _ i hi)
    have ih := run_itemsI d f g w is (fun j hj => h j (by simp [hj]))
    simp only [Op.eqItems, Sem.run_bind, p1, p2, Result.andThen_ok, eq_int]
    cases hf : (f i == g i)
    · simp [hf]
    · simpa [hf] using ih
theorem run_equalI (w : World) (f g : Nat → Int) : (Op.equal 97 (.agg (arrI f)) (.agg (arrI g))).run Try.prog w = .ok (eq16 f g) w := by
  obtain ⟨i0, hi, _⟩ := info_parts j_infoInt
  unfold Op.equal Op.maxDepth
  rw [run_equalIn_array w 9999 _ _ undVals hi, j_cellsInt, run_itemsI 9998 f g w _ (fun i hi => by simpa using hi)]
  rfl

/-- The greatest of the first k numbers. -/
def mxTo (l : List Int) (k : Nat) : Int := (l.take k).foldl max (l.getD 0 0)
def maxL (l : List Int) : Int := mxTo l l.length
theorem mxTo_one {l : List Int} (h : 1 ≤ l.length) : mxTo l 1 = l.getD 0 0 := by
  cases l with
  | nil => simp at h
  | cons x r => show max x x = x; omega
theorem mxTo_succ {l : List Int} {k : Nat} (h : k < l.length) : mxTo l (k + 1) = max (mxTo l k) (l.getD k 0) := by
  unfold mxTo
  rw [take_getD l 0 h]
  simp
theorem foldl_max : ∀ (l : List Int) (s : Int), s ≤ l.foldl max s ∧ (∀ x ∈ l, x ≤ l.foldl max s) ∧ (l.foldl max s = s ∨ l.foldl max s ∈ l)
  | [], s => ⟨Int.le_refl _, fun x hx => (by cases hx), .inl rfl⟩
  | y :: r, s => by
    obtain ⟨h1, h2, h3⟩ := foldl_max r (max s y)
    simp only [List.foldl_cons]
    refine ⟨by omega, fun x hx => ?_, ?_⟩
    · rcases List.mem_cons.1 hx with rfl | hx
      · omega
      · exact h2 x hx
    · rcases h3 with h3 | h3
      · by_cases e : s ≤ y
        · right; rw [h3, show max s y = y by omega]; simp
        · left; rw [h3]; omega
      · right; simp [h3]
theorem maxL_ge {l : List Int} {i : Nat} (hi : i < l.length) : l.getD i 0 ≤ maxL l := by
  unfold maxL mxTo
  rw [List.take_length]
  exact (foldl_max l _).2.1 _ (getD_mem 0 hi)
theorem maxL_mem {l : List Int} (h : 1 ≤ l.length) : maxL l ∈ l := by
  unfold maxL mxTo
  rw [List.take_length]
  rcases (foldl_max l (l.getD 0 0)).2.2 with e | e
  · rw [e]; exact getD_mem 0 (by omega)
  · exact e
theorem maxL_bd {l : List Int} {X : Int} (h : 1 ≤ l.length) (hb : ∀ i, 0 ≤ l.getD i 0 ∧ l.getD i 0 ≤ X) : 0 ≤ maxL l ∧ maxL l ≤ X := by
  obtain ⟨i, hi, e⟩ := List.getElem_of_mem (maxL_mem h)
  have := hb i
  rw [List.getD_eq_getElem?_getD, List.getElem?_eq_getElem hi, Option.getD_some, e] at this
  exact this
theorem maxL_gr {l : List Int} {most : Int} (h : 1 ≤ l.length) : decide (most < maxL l) = grB most l := by
  cases hg : grB most l with
  | true =>
    obtain ⟨x, hx, h1⟩ := List.any_eq_true.1 hg
    obtain ⟨i, hi, rfl⟩ := List.getElem_of_mem hx
    have := maxL_ge hi
    rw [List.getD_eq_getElem?_getD, List.getElem?_eq_getElem hi, Option.getD_some] at this
    simp only [decide_eq_true_eq] at h1 ⊢
    omega
  | false =>
    have := List.any_eq_false.1 hg _ (maxL_mem h)
    simpa using this
theorem gr_pad {m : List Int} {most : Int} (hm : m.length ≤ 16) (h0 : 0 ≤ most) : grB most (pad m) = grB most m := by
  cases hg : grB most m with
  | false =>
    refine grB_no.2 fun i hi => ?_
    rw [pad_at hm]
    by_cases h : i < m.length
    · exact grB_no.1 hg i h
    · rw [getD_out (by omega)]; exact h0
  | true =>
    cases hp : grB most (pad m) with
    | true => rfl
    | false =>
      have : grB most m = false := grB_no.2 fun i hi => by
        have := grB_no.1 hp i (by rw [pad_len]; omega)
        rwa [pad_at hm] at this
      rw [hg] at this; cases this
/-- From nought on it comes to the same. -/
theorem max_zero {l : List Int} (h : 1 ≤ l.length) (h0 : ∀ i, 0 ≤ l.getD i 0) : l.foldl max 0 = maxL l := by
  unfold maxL mxTo
  rw [List.take_length]
  have a := foldl_max l 0
  have b := foldl_max l (l.getD 0 0)
  have hx := h0 0
  have h1 : l.foldl max 0 ≤ l.foldl max (l.getD 0 0) := by
    rcases a.2.2 with e | e
    · rw [e]; omega
    · exact b.2.1 _ e
  have h2 : l.foldl max (l.getD 0 0) ≤ l.foldl max 0 := by
    rcases b.2.2 with e | e
    · rw [e]; exact a.2.1 _ (getD_mem 0 (by omega))
    · exact a.2.1 _ e
  omega
theorem maxL_zeros {V : Nat} (h : 1 ≤ V) : maxL (zerosJ V) = 0 := by
  have := maxL_bd (l := zerosJ V) (X := 0) (by rw [zerosJ_len]; exact h) (fun i => by rw [zerosJ_at]; omega)
  omega
end Go.Proofs.Ytglggigndhbpcaa
