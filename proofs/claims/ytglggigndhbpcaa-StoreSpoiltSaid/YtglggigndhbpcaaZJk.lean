/- The contract of the program's Solve: what the rounds tell, or the refusal. Condition: the clauses lie in memory; at most 1000 variables. -/
import Derived.Test.YtglggigndhbpcaaZJl
import Derived.Test.YtglggigndhbpcaaZHvars
namespace Go.Proofs.Ytglggigndhbpcaa
open Go.RowKit

/-- What Solve tells. -/
def SvIs (V : Nat) (l : List Cl) (a : List Int) (is : Bool) (n er : Int) : Prop :=
  (hrB V l = true ∧ TellJ l (zerosJ V) (((V : Int) - 1) * mostD 0 l) a is n ∧ er = 0) ∨ (hrB V l = false ∧ a = [] ∧ is = false ∧ n = 0 ∧ er = 1)
def SvPost (V : Nat) (l : List Cl) (w : World) (e : Ending) (w' : World) : Prop :=
  ∃ (a : List Int) (is : Bool) (n er : Int) (x : Option Addr) (c : Nat), e = .returned (.tuple #[.slice x a.length c, .bool is, .int .i64 n, .int .i64 er]) ∧ SvIs V l a is n er ∧ IOwn w' w.heap.size (.slice x a.length c) a ∧ Below w.heap.size w w'
theorem SvIs.uniq {V : Nat} {l : List Cl} {a b : List Int} {is are : Bool} {n m e f : Int} (h : SvIs V l a is n e) (k : SvIs V l b are m f) : a = b ∧ is = are ∧ n = m ∧ e = f := by
  rcases h with ⟨h0, h1, rfl⟩ | ⟨h0, rfl, rfl, rfl, rfl⟩
  · rcases k with ⟨_, k1, rfl⟩ | ⟨k0, _⟩
    · obtain ⟨rfl, rfl, rfl⟩ := h1.uniq k1
      exact ⟨rfl, rfl, rfl, rfl⟩
    · rw [h0] at k0; cases k0
  · rcases k with ⟨k0, _⟩ | ⟨_, rfl, rfl, rfl, rfl⟩
    · rw [h0] at k0; cases k0
    · exact ⟨rfl, rfl, rfl, rfl⟩
theorem hiJ_zeros {V : Nat} (h : 1 ≤ V) (l : List Cl) : hiJ (zerosJ V) l = ((V : Int) - 1) * mostD 0 l := by
  unfold hiJ
  rw [maxL_zeros h, zerosJ_len]
  omega
theorem looks_lt {j : Nat} {n : Nat} (h : (j : Int) * n ≤ 100000000) : IntKind.i64.wrap ((j : Int) * (n : Int)) = (j : Int) * n := by
  have h0 : 0 ≤ (j : Int) * n := Int.mul_nonneg (by omega) (by omega)
  generalize (j : Int) * n = q at h h0 ⊢
  exact IntWalk.i64_in _ (by omega)

set_option maxRecDepth 100000 in
set_option maxHeartbeats 4000000 in
theorem jSolve_any (V : Nat) (hV : V ≤ 1000) (l : List Cl) (a : Option Addr) (cap B : Nat) (w : World) (hin : ClsIn w (· < B) l a cap) (hB : B ≤ w.heap.size) :
    Calls Try.prog 33 #[.int .i64 V, .slice a l.length cap] w (SvPost V l w) := by
  have hlen := hin.len
  have CR := hRight_any V l a cap B w hin hB
  cases hr : hrB V l with
  | false =>
    rw [hr] at CR
    have HR := Lib.hid hr
    have CR2 := Lib.hid CR
    clear CR hin hr
    go_enter Try.func33, Try.ntmps33
    go_wp2_with (go_at_call 30; refine CR2.out.mono ?_; rintro e w1 ⟨rfl, hb1⟩)
    refine bodyPost_ret (v := .tuple #[.slice none 0 0, .bool false, .int .i64 0, .int .i64 1]) (by simp [results, Try.f33, go_sem]) rfl ?_
    exact ⟨[], false, 0, 1, none, 0, rfl, .inr ⟨HR.out, rfl, rfl, rfl, rfl⟩, IOwn.nil _ _, hb1⟩
  | true =>
    rw [hr] at CR
    have HR := Lib.hid hr
    have CR2 := Lib.hid CR
    obtain ⟨v1, v2, _, _⟩ := hrB_of hr
    have hV1 : 1 ≤ V := by omega
    have CL : Hid (∀ (w1 : World), Below w.heap.size w w1 → ∃ W0, (Instr.makeSlice 23 (.int .i64 V) (.int .i64 V)).run Try.prog w1 = .ok (.slice (some ⟨w1.heap.size, 0, none⟩) V V) W0 ∧ Hid (Below w.heap.size w W0) ∧ Hid (Calls Try.prog 50 #[.slice a l.length cap, .slice (some ⟨w1.heap.size, 0, none⟩) V V] W0 (LtPost l (zerosJ V) (((V : Int) - 1) * mostD 0 l) W0))) := Lib.hid (fun w1 hb1 => by
      have hn : NumB (w1.alloc (.cells ((List.replicate V (0 : Int)).map (Value.int .i64)).toArray 3)) w1.heap.size (zerosJ V) := heap_new _ _
      have := jleast_any (zerosJ V) l a (some ⟨w1.heap.size, 0, none⟩) cap V (w1.heap.size + 1) (w1.alloc (.cells ((List.replicate V (0 : Int)).map (Value.int .i64)).toArray 3)) (by rw [zerosJ_len]; exact hr) (fun i => by rw [zerosJ_at]; omega) (by rw [maxL_zeros hV1]; omega)
        (((hin.below (hb1.mono hB)).keep (fun b hb => heap_old _ _ (by have := hb1.size; omega))).mono (by have := hb1.size; omega)) ((hn.ints (cap := V) (by rw [zerosJ_len]; omega) (by omega)).weak (fun b hb => by simpa using hb)) (by simp)
      rw [zerosJ_len, hiJ_zeros hV1] at this
      exact ⟨_, make_nums V hV w1, Lib.hid (hb1.alloc hb1.size _), Lib.hid this⟩)
    clear CR hin hr
    go_enter Try.func33, Try.ntmps33
    go_wp2_with (first | (go_at_call 30; refine CR2.out.mono ?_; rintro e w1 ⟨rfl, hb1⟩; obtain ⟨W0, hmk, HB0, HC⟩ := CL.out w1 hb1) | (go_at_call 50; refine HC.out.mono ?_; rintro e w3 ⟨a', is, j, x, c, rfl, ht, hbd, hown, hb3⟩; have hwr := looks_lt hbd; have HT := Lib.hid ht; have HO := Lib.hid hown; have HB3 := Lib.hid hb3; clear ht hown hb3))
    refine bodyPost_ret (v := .tuple #[.slice x a'.length c, .bool is, .int .i64 ((j : Int) * l.length), .int .i64 0]) (by simp [results, Try.f33, go_sem]) rfl ?_
    exact ⟨a', is, _, 0, x, c, rfl, .inl ⟨HR.out, HT.out, rfl⟩, HO.out.low HB0.out.size, Below.step HB0.out HB3.out (Nat.le_refl _)⟩

/-- What Solve tells, whatever is said of how many variables there are. -/
def SvI (vars : Int) (l : List Cl) (a : List Int) (is : Bool) (n er : Int) : Prop :=
  (hrB vars l = true ∧ TellJ l (zerosJ vars.toNat) ((vars - 1) * mostD 0 l) a is n ∧ er = 0) ∨ (hrB vars l = false ∧ a = [] ∧ is = false ∧ n = 0 ∧ er = 1)
def SiPost (vars : Int) (l : List Cl) (w : World) (e : Ending) (w' : World) : Prop :=
  ∃ (a : List Int) (is : Bool) (n er : Int) (x : Option Addr) (c : Nat), e = .returned (.tuple #[.slice x a.length c, .bool is, .int .i64 n, .int .i64 er]) ∧ SvI vars l a is n er ∧ IOwn w' w.heap.size (.slice x a.length c) a ∧ Below w.heap.size w w'
theorem SvPost.int {V : Nat} {l : List Cl} {w w' : World} {e : Ending} (h : SvPost V l w e w') : SiPost (V : Int) l w e w' := h
set_option maxRecDepth 100000 in
set_option maxHeartbeats 4000000 in
theorem jSolve_int (vars : Int) (l : List Cl) (a : Option Addr) (cap B : Nat) (w : World) (hin : ClsIn w (· < B) l a cap) (hB : B ≤ w.heap.size) :
    Calls Try.prog 33 #[.int .i64 vars, .slice a l.length cap] w (SiPost vars l w) := by
  cases hr : hrB vars l with
  | true =>
    obtain ⟨v1, v2, _, _⟩ := hrB_of hr
    obtain ⟨V, rfl⟩ : ∃ V : Nat, vars = (V : Int) := ⟨vars.toNat, by omega⟩
    exact (jSolve_any V (by omega) l a cap B w hin hB).mono fun e w' h => h.int
  | false =>
    have hlen := hin.len
    have CR := hRight_any vars l a cap B w hin hB
    rw [hr] at CR
    have HR := Lib.hid hr
    have CR2 := Lib.hid CR
    clear CR hin hr
    go_enter Try.func33, Try.ntmps33
    go_wp2_with (go_at_call 30; refine CR2.out.mono ?_; rintro e w1 ⟨rfl, hb1⟩)
    refine bodyPost_ret (v := .tuple #[.slice none 0 0, .bool false, .int .i64 0, .int .i64 1]) (by simp [results, Try.f33, go_sem]) rfl ?_
    exact ⟨[], false, 0, 1, none, 0, rfl, .inr ⟨HR.out, rfl, rfl, rfl, rfl⟩, IOwn.nil _ _, hb1⟩
end Go.Proofs.Ytglggigndhbpcaa
/- What Solve tells of right clauses, in plain words: the least model, or that there is none. No condition but those that stand in each statement. -/
namespace Go.Proofs.Ytglggigndhbpcaa
open Go.RowKit

theorem hrB_mk {V : Nat} {l : List Cl} (h1 : 1 ≤ V) (h2 : V ≤ 16) (h3 : l.length ≤ 60) (h4 : l.all (clB V) = true) : hrB V l = true := by
  unfold hrB cntB
  rw [h4]
  simp
  omega
/-- Solve: the least model of all, or none. -/
theorem sv_cases {V : Nat} {l : List Cl} {a : List Int} {is : Bool} {n : Int} (hr : hrB V l = true) (ht : TellJ l (zerosJ V) (((V : Int) - 1) * mostD 0 l) a is n) :
    (is = true ∧ LeastJ l (zerosJ V) a ∧ a.length = V ∧ (∀ i, 0 ≤ a.getD i 0 ∧ a.getD i 0 ≤ ((V : Int) - 1) * mostD 0 l) ∧ natsB a = true) ∨ (is = false ∧ a = [] ∧ ∀ b, LeM (zerosJ V) b → ¬ ModJ l b) := by
  obtain ⟨_, _, _, v4⟩ := hrB_of hr
  have hlim := lim_bd hr
  have hR : RightJ (zerosJ V).length l := by rw [zerosJ_len]; exact RightJ.of v4
  have e : ((V : Int) - 1) * mostD 0 l = 0 + (((zerosJ V).length : Int) - 1) * mostD 0 l := by rw [zerosJ_len]; omega
  rw [e] at ht
  rcases ht.cases hR (fun i _ => by rw [zerosJ_at]; omega) with ⟨h1, h2, h3⟩ | h
  · rw [← e] at h3
    have hl : a.length = V := by rw [← h2.1.1, zerosJ_len]
    have hb : ∀ i, 0 ≤ a.getD i 0 ∧ a.getD i 0 ≤ ((V : Int) - 1) * mostD 0 l := fun i => by
      have h0 := h2.1.2 i
      rw [zerosJ_at] at h0
      refine ⟨h0, ?_⟩
      by_cases hi : i < a.length
      · exact h3 i hi
      · rw [getD_out (by omega)]; exact hlim.1
    exact .inl ⟨h1, h2, hl, hb, nats_of fun i => ⟨(hb i).1, by have := (hb i).2; omega⟩⟩
  · exact .inr h
end Go.Proofs.Ytglggigndhbpcaa
/- A least set of clauses without a model, as plain functions of lists. No condition but those that stand in each statement. -/
namespace Go.Proofs.Ytglggigndhbpcaa
open Go.RowKit

/-- Is there a model? -/
def HasM (V : Nat) (l : List Cl) : Prop := ∃ b, LeM (zerosJ V) b ∧ ModJ l b
open Classical in
noncomputable def posB (vars : Int) (l : List Cl) : Bool := hrB vars l && decide (HasM vars.toNat l)
open Classical in
/-- Solve tells just that. -/
theorem SvI.told {vars : Int} {l : List Cl} {a : List Int} {is : Bool} {n er : Int} (h : SvI vars l a is n er) : is = posB vars l ∧ er = (if hrB vars l = true then 0 else 1) := by
  rcases h with ⟨hr, ht, rfl⟩ | ⟨hr, _, rfl, _, rfl⟩
  · rw [if_pos hr]
    refine ⟨?_, rfl⟩
    obtain ⟨v1, v2, _, _⟩ := hrB_of hr
    obtain ⟨V, rfl⟩ : ∃ V : Nat, vars = (V : Int) := ⟨vars.toNat, by omega⟩
    unfold posB
    rw [hr, Bool.true_and]
    rcases sv_cases hr ht with ⟨rfl, h1, _⟩ | ⟨rfl, _, h1⟩
    · exact (decide_eq_true (p := HasM (V : Int).toNat l) ⟨a, h1.1, h1.2.1⟩).symm
    · refine (decide_eq_false (p := HasM (V : Int).toNat l) ?_).symm
      rintro ⟨b, hb, hm⟩
      exact h1 b hb hm
  · rw [hr]
    exact ⟨by unfold posB; rw [hr]; rfl, rfl⟩
open Classical in
theorem posB_sub {vars : Int} {l k : List Cl} (hr : hrB vars k = true) (h : posB vars l = true) (hs : ∀ c ∈ k, c ∈ l) : posB vars k = true := by
  unfold posB at h ⊢
  rw [hr]
  simp only [Bool.and_eq_true, decide_eq_true_eq, Bool.true_and] at h ⊢
  obtain ⟨_, b, h1, h2⟩ := h
  exact ⟨b, h1, h2.sub hs⟩
theorem posB_right {vars : Int} {l : List Cl} (h : hrB vars l = false) : posB vars l = false := by unfold posB; rw [h]; rfl

/-- The clauses of places. -/
def pickL (l : List Cl) (ps : List Int) : List Cl := ps.map fun p => l.getD p.toNat cl0
theorem pickL_len (l : List Cl) (ps : List Int) : (pickL l ps).length = ps.length := by simp [pickL]
theorem pickL_take (l : List Cl) {ps : List Int} {k : Nat} (hk : k < ps.length) : pickL l (ps.take (k + 1)) = pickL l (ps.take k) ++ [l.getD (ps.getD k 0).toNat cl0] := by
  rw [take_getD ps 0 hk]; simp [pickL]
/-- All places are places of the list. -/
def InP (n : Nat) (ps : List Int) : Prop := ∀ p ∈ ps, 0 ≤ p ∧ p < (n : Int)
theorem pickL_mem {l : List Cl} {ps : List Int} (h : InP l.length ps) {c : Cl} (hc : c ∈ pickL l ps) : c ∈ l := by
  obtain ⟨p, hp, rfl⟩ := List.mem_map.1 hc
  have := h p hp
  exact getD_mem cl0 (by omega)
/-- The first places. -/
def uptoK : Nat → List Int
  | 0 => []
  | k + 1 => uptoK k ++ [(k : Int)]
theorem uptoK_len : ∀ k, (uptoK k).length = k
  | 0 => rfl
  | k + 1 => by simp [uptoK, uptoK_len k]
theorem uptoK_mem {p : Int} : ∀ {k : Nat}, p ∈ uptoK k ↔ 0 ≤ p ∧ p < (k : Int)
  | 0 => ⟨fun h => (by cases h), fun h => (by omega)⟩
  | k + 1 => by
    unfold uptoK
    rw [List.mem_append, uptoK_mem, List.mem_singleton]
    omega
/-- All but one. -/
def lessK (i : Int) (now : List Int) : List Int := now.filter fun p => decide (p ≠ i)
theorem lessK_take {i : Int} {now : List Int} {k : Nat} (hk : k < now.length) : lessK i (now.take (k + 1)) = lessK i (now.take k) ++ if now.getD k 0 = i then [] else [now.getD k 0] := by
  rw [take_getD now 0 hk]
  unfold lessK
  rw [List.filter_append]
  generalize now.getD k 0 = p
  by_cases h : p = i <;> simp [h]
theorem lessK_len (i : Int) (now : List Int) : (lessK i now).length ≤ now.length := List.length_filter_le _ _
theorem lessK_in {i : Int} {now : List Int} {n : Nat} (h : InP n now) : InP n (lessK i now) := fun p hp => h p (List.mem_filter.1 hp).1
/-- What remains when so many have been tried. -/
noncomputable def coreK (vars : Int) (l : List Cl) : Nat → List Int
  | 0 => uptoK l.length
  | i + 1 => if posB vars (pickL l (lessK i (coreK vars l i))) = true then coreK vars l i else lessK i (coreK vars l i)
theorem coreK_len (vars : Int) (l : List Cl) : ∀ i, (coreK vars l i).length ≤ l.length
  | 0 => by show (uptoK l.length).length ≤ l.length; rw [uptoK_len]; exact Nat.le_refl _
  | i + 1 => by
    have ih := coreK_len vars l i
    unfold coreK
    split
    · exact ih
    · exact Nat.le_trans (lessK_len _ _) ih
theorem coreK_in (vars : Int) (l : List Cl) : ∀ i, InP l.length (coreK vars l i)
  | 0 => fun p hp => uptoK_mem.1 hp
  | i + 1 => by
    have ih := coreK_in vars l i
    unfold coreK
    split
    · exact ih
    · exact lessK_in ih
/-- What Core tells. -/
noncomputable def coreR (vars : Int) (l : List Cl) : List Int := if hrB vars l = true then (if posB vars l = true then [] else coreK vars l l.length) else []
def coreE (vars : Int) (l : List Cl) : Int := if hrB vars l = true then 0 else 1
/-- Are places ascending, and places of the list? -/
def okK (n : Nat) (ps : List Int) (k : Nat) : Bool := decide (0 ≤ ps.getD k 0) && decide (ps.getD k 0 < (n : Int)) && (decide (k = 0) || decide (ps.getD (k - 1) 0 < ps.getD k 0))
def okP (n : Nat) (ps : List Int) : Prop := ∀ k, k < ps.length → okK n ps k = true
instance (n : Nat) (ps : List Int) : Decidable (okP n ps) := Nat.decidableBallLT _ _
theorem okP.in {n : Nat} {ps : List Int} (h : okP n ps) : InP n ps := fun p hp => by
  obtain ⟨k, hk, rfl⟩ := List.getElem_of_mem hp
  have := h k hk
  simp only [okK, Bool.and_eq_true, decide_eq_true_eq, List.getD_eq_getElem?_getD, List.getElem?_eq_getElem hk, Option.getD_some] at this
  exact ⟨this.1.1, this.1.2⟩
/-- What Proves tells. -/
noncomputable def provB (vars : Int) (l : List Cl) (ps : List Int) : Bool := hrB vars l && (decide (okP l.length ps) && !posB vars (pickL l ps))
/-- Ascending places are no more than the list has. -/
theorem okP.len {n : Nat} {ps : List Int} (h : okP n ps) : ps.length ≤ n := by
  have key : ∀ k, k < ps.length → (k : Int) ≤ ps.getD k 0 := by
    intro k
    induction k with
    | zero =>
      intro hk
      have := h 0 hk
      simp only [okK, Bool.and_eq_true, decide_eq_true_eq] at this
      omega
    | succ k ih =>
      intro hk
      have h1 := ih (by omega)
      have := h (k + 1) hk
      simp only [okK, Bool.and_eq_true, Bool.or_eq_true, decide_eq_true_eq, Nat.add_sub_cancel] at this
      omega
  rcases Nat.eq_zero_or_pos ps.length with h0 | h0
  · omega
  · have h1 := key (ps.length - 1) (by omega)
    have := h (ps.length - 1) (by omega)
    simp only [okK, Bool.and_eq_true, decide_eq_true_eq] at this
    omega
theorem hr_pick {vars : Int} {l : List Cl} {ps : List Int} (hr : hrB vars l = true) (hi : InP l.length ps) (hl : ps.length ≤ l.length) : hrB vars (pickL l ps) = true := by
  obtain ⟨v1, v2, v3, v4⟩ := hrB_of hr
  obtain ⟨V, rfl⟩ : ∃ V : Nat, vars = (V : Int) := ⟨vars.toNat, by omega⟩
  exact hrB_mk (by omega) (by omega) (by rw [pickL_len]; omega) (List.all_eq_true.2 fun d hd => List.all_eq_true.1 v4 d (pickL_mem hi hd))
end Go.Proofs.Ytglggigndhbpcaa
/- What is left has no model, and no part of it is without one: plain mathematics (K3). No condition but those that stand in each statement. -/
namespace Go.Proofs.Ytglggigndhbpcaa
open Go.RowKit

theorem uptoK_at : ∀ {n i : Nat}, i < n → (uptoK n).getD i 0 = (i : Int)
  | n + 1, i, h => by
    unfold uptoK
    rw [List.getD_eq_getElem?_getD]
    by_cases e : i < n
    · rw [List.getElem?_append_left (by rw [uptoK_len]; exact e), ← List.getD_eq_getElem?_getD]
      exact uptoK_at e
    · obtain rfl : i = n := by omega
      rw [List.getElem?_append_right (by rw [uptoK_len]; exact Nat.le_refl _), uptoK_len, Nat.sub_self]
      rfl
theorem pick_all (l : List Cl) : pickL l (uptoK l.length) = l := by
  refine List.ext_getElem (by rw [pickL_len, uptoK_len]) fun i h1 h2 => ?_
  have e : (uptoK l.length)[i]'(by rw [uptoK_len]; exact h2) = (i : Int) := by
    have := uptoK_at h2
    rwa [List.getD_eq_getElem?_getD, List.getElem?_eq_getElem (by rw [uptoK_len]; exact h2), Option.getD_some] at this
  simp only [pickL, List.getElem_map, e, Int.toNat_natCast]
  rw [List.getD_eq_getElem?_getD, List.getElem?_eq_getElem h2]
  rfl
/-- Ascending. -/
def Asc (ps : List Int) : Prop := ps.Pairwise (· < ·)
theorem uptoK_asc : ∀ n, Asc (uptoK n)
  | 0 => List.Pairwise.nil
  | n + 1 => by
    refine List.pairwise_append.2 ⟨uptoK_asc n, List.pairwise_singleton _ _, fun a ha b hb => ?_⟩
    rw [List.mem_singleton.1 hb]
    exact (uptoK_mem.1 ha).2
theorem lessK_asc {i : Int} {ps : List Int} (h : Asc ps) : Asc (lessK i ps) := List.Pairwise.filter _ h
theorem coreK_asc (vars : Int) (l : List Cl) : ∀ i, Asc (coreK vars l i)
  | 0 => uptoK_asc _
  | i + 1 => by
    have ih := coreK_asc vars l i
    unfold coreK
    split
    · exact ih
    · exact lessK_asc ih
theorem asc_ok {n : Nat} {ps : List Int} (h : Asc ps) (hi : InP n ps) : okP n ps := fun k hk => by
  have hm := hi _ (getD_mem 0 hk)
  simp only [okK, Bool.and_eq_true, Bool.or_eq_true, decide_eq_true_eq]
  refine ⟨⟨hm.1, hm.2⟩, ?_⟩
  rcases Nat.eq_zero_or_pos k with h0 | h0
  · exact .inl h0
  · right
    have := List.pairwise_iff_getElem.1 h (k - 1) k (by omega) hk (by omega)
    rw [List.getD_eq_getElem?_getD, List.getD_eq_getElem?_getD, List.getElem?_eq_getElem hk, List.getElem?_eq_getElem (show k - 1 < ps.length by omega)]
    exact this
/-- All but the i-th. -/
theorem less_at {ps : List Int} (h : Asc ps) {i : Nat} (hi : i < ps.length) : lessK (ps.getD i 0) ps = ps.take i ++ ps.drop (i + 1) := by
  have e : ps = ps.take i ++ (ps.getD i 0 :: ps.drop (i + 1)) := by
    conv => lhs; rw [← List.take_append_drop i ps, List.drop_eq_getElem_cons hi]
    rw [List.getD_eq_getElem?_getD, List.getElem?_eq_getElem hi]; rfl
  have h2 := h
  unfold Asc at h2
  rw [e] at h2
  obtain ⟨_, p2, p3⟩ := List.pairwise_append.1 h2
  obtain ⟨p4, _⟩ := List.pairwise_cons.1 p2
  generalize ps.getD i 0 = a at e p3 p4 ⊢
  conv => lhs; rw [e]
  unfold lessK
  rw [List.filter_append, List.filter_cons_of_neg (by simp), List.filter_eq_self.2 (fun x hx => by have := p3 x hx a (by simp); simp; omega), List.filter_eq_self.2 (fun x hx => by have := p4 x hx; simp; omega)]
/-- Nothing that remains is new. -/
theorem coreK_sub (vars : Int) (l : List Cl) {i : Nat} : ∀ {j : Nat}, i ≤ j → ∀ p ∈ coreK vars l j, p ∈ coreK vars l i
  | 0, h, p, hp => by
    obtain rfl : i = 0 := by omega
    exact hp
  | j + 1, h, p, hp => by
    by_cases e : i = j + 1
    · subst e; exact hp
    · refine coreK_sub vars l (j := j) (by omega) p ?_
      unfold coreK at hp
      split at hp
      · exact hp
      · exact (List.mem_filter.1 hp).1
/-- What remains has no model. -/
theorem coreK_none {vars : Int} {l : List Cl} (h : posB vars l = false) : ∀ i, posB vars (pickL l (coreK vars l i)) = false
  | 0 => by show posB vars (pickL l (uptoK l.length)) = false; rw [pick_all]; exact h
  | i + 1 => by
    have ih := coreK_none h i
    unfold coreK
    cases hp : posB vars (pickL l (lessK i (coreK vars l i))) with
    | true => rw [if_pos rfl]; exact ih
    | false => rw [if_neg (by decide)]; exact hp
/-- Without any one of them there is one. -/
theorem coreK_least {vars : Int} {l : List Cl} (hr : hrB vars l = true) {p : Int} (hp : p ∈ coreK vars l l.length) : posB vars (pickL l (lessK p (coreK vars l l.length))) = true := by
  have hpr := coreK_in vars l l.length p hp
  obtain ⟨i, rfl⟩ : ∃ i : Nat, p = (i : Int) := ⟨p.toNat, by omega⟩
  have hi : i < l.length := by omega
  have h1 := coreK_sub vars l (i := i + 1) (j := l.length) (by omega) _ hp
  have hpos : posB vars (pickL l (lessK i (coreK vars l i))) = true := by
    cases hq : posB vars (pickL l (lessK i (coreK vars l i))) with
    | true => rfl
    | false =>
      exfalso
      unfold coreK at h1
      rw [hq, if_neg (by decide)] at h1
      have := (List.mem_filter.1 h1).2
      simp at this
  refine posB_sub (hr_pick hr (lessK_in (coreK_in vars l _)) (Nat.le_trans (lessK_len _ _) (coreK_len vars l _))) hpos fun c hc => ?_
  obtain ⟨q, hq, rfl⟩ := List.mem_map.1 hc
  obtain ⟨q1, q2⟩ := List.mem_filter.1 hq
  exact List.mem_map.2 ⟨q, List.mem_filter.2 ⟨coreK_sub vars l (i := i) (j := l.length) (by omega) q q1, q2⟩, rfl⟩
theorem posB_nil {vars : Int} {l : List Cl} (hr : hrB vars l = true) : posB vars (pickL l []) = true := by
  have h : hrB vars (pickL l []) = true := hr_pick hr (fun p hp => by cases hp) (Nat.zero_le _)
  obtain ⟨v1, v2, v3, v4⟩ := hrB_of h
  unfold posB
  rw [h, Bool.true_and]
  exact @decide_eq_true _ (Classical.propDecidable _) ⟨zerosJ vars.toNat, LeM.refl _, fun c hc => by cases hc⟩
/-- K3: nothing is told just if there is a model. -/
theorem coreR_nil {vars : Int} {l : List Cl} (hr : hrB vars l = true) : (coreR vars l).length = 0 ↔ posB vars l = true := by
  unfold coreR
  rw [if_pos hr]
  cases hp : posB vars l with
  | true => simp
  | false =>
    rw [if_neg (by decide)]
    refine ⟨fun h => ?_, fun h => by cases h⟩
    have := coreK_none hp l.length
    rw [List.eq_nil_of_length_eq_zero h, posB_nil hr] at this
    cases this
theorem coreR_in (vars : Int) (l : List Cl) : InP l.length (coreR vars l) := by
  unfold coreR
  split
  · split
    · intro p hp; cases hp
    · exact coreK_in vars l _
  · intro p hp; cases hp
theorem coreR_asc (vars : Int) (l : List Cl) : Asc (coreR vars l) := by
  unfold coreR
  split
  · split
    · exact List.Pairwise.nil
    · exact coreK_asc vars l _
  · exact List.Pairwise.nil
theorem coreR_len (vars : Int) (l : List Cl) : (coreR vars l).length ≤ l.length := by
  unfold coreR
  split
  · split
    · exact Nat.zero_le _
    · exact coreK_len vars l _
  · exact Nat.zero_le _
/-- K3: what is told proves it. -/
theorem coreR_proves {vars : Int} {l : List Cl} (hr : hrB vars l = true) : provB vars l (coreR vars l) = !posB vars l := by
  have hok : okP l.length (coreR vars l) := asc_ok (coreR_asc vars l) (coreR_in vars l)
  unfold provB
  rw [hr, decide_eq_true hok]
  simp only [Bool.true_and]
  congr 1
  unfold coreR
  rw [if_pos hr]
  cases hp : posB vars l with
  | true => rw [if_pos rfl]; exact posB_nil hr
  | false => rw [if_neg (by decide)]; exact coreK_none hp _
/-- K3: no part of it does. -/
theorem coreR_part {vars : Int} {l : List Cl} (hr : hrB vars l = true) {i : Nat} (hi : i < (coreR vars l).length) : provB vars l ((coreR vars l).take i ++ (coreR vars l).drop (i + 1)) = false := by
  rw [← less_at (coreR_asc vars l) hi]
  have hm := getD_mem 0 hi
  generalize (coreR vars l).getD i 0 = p at hm ⊢
  unfold provB
  have h2 : posB vars (pickL l (lessK p (coreR vars l))) = true := by
    unfold coreR at hm ⊢
    rw [if_pos hr] at hm ⊢
    cases hp : posB vars l with
    | true => rw [hp, if_pos rfl] at hm; cases hm
    | false =>
      rw [hp, if_neg (by decide)] at hm
      rw [if_neg (by decide)]
      exact coreK_least hr hm
  rw [h2]
  simp
end Go.Proofs.Ytglggigndhbpcaa
/- What a store of clauses tells, as plain functions of lists: whether it is right, what it is with clauses more, what follows; and what follows from that. No condition but those that stand in each statement. -/
namespace Go.Proofs.Ytglggigndhbpcaa
open Go.RowKit

open Classical in
/-- The least model, or nothing. -/
noncomputable def lmK (vars : Int) (l : List Cl) : List Int := if h : posB vars l = true ∧ ∃ a, LeastJ l (zerosJ vars.toNat) a then Classical.choose h.2 else []
open Classical in
theorem lm_is {vars : Int} {l : List Cl} {a : List Int} (hp : posB vars l = true) (h : LeastJ l (zerosJ vars.toNat) a) : lmK vars l = a := by
  have he : ∃ a, LeastJ l (zerosJ vars.toNat) a := ⟨a, h⟩
  unfold lmK
  rw [dif_pos ⟨hp, he⟩]
  exact (Classical.choose_spec he).uniq h
open Classical in
theorem lm_no {vars : Int} {l : List Cl} (hp : posB vars l = false) : lmK vars l = [] := by
  unfold lmK
  rw [dif_neg]
  rintro ⟨h, _⟩
  rw [hp] at h; cases h
/-- What Solve tells is just that. -/
theorem SvI.is {vars : Int} {l : List Cl} {a : List Int} {is : Bool} {n er : Int} (h : SvI vars l a is n er) : a = lmK vars l ∧ is = posB vars l ∧ er = (if hrB vars l = true then 0 else 1) := by
  obtain ⟨h1, h2⟩ := h.told
  refine ⟨?_, h1, h2⟩
  rcases h with ⟨hr, ht, _⟩ | ⟨hr, rfl, _⟩
  · obtain ⟨v1, v2, _, _⟩ := hrB_of hr
    obtain ⟨V, rfl⟩ : ∃ V : Nat, vars = (V : Int) := ⟨vars.toNat, by omega⟩
    rcases sv_cases hr ht with ⟨rfl, h3, _⟩ | ⟨rfl, rfl, _⟩
    · exact (lm_is h1.symm h3).symm
    · exact (lm_no h1.symm).symm
  · exact (lm_no (posB_right hr)).symm
open Classical in
theorem posB_of {vars : Int} {l : List Cl} (h : posB vars l = true) : hrB vars l = true ∧ HasM vars.toNat l := by
  unfold posB at h
  simp only [Bool.and_eq_true, decide_eq_true_eq] at h
  exact h
open Classical in
theorem posB_yes {vars : Int} {l : List Cl} {b : List Int} (hr : hrB vars l = true) (h : LeM (zerosJ vars.toNat) b) (hm : ModJ l b) : posB vars l = true := by
  unfold posB; rw [hr, Bool.true_and]; exact decide_eq_true (p := HasM vars.toNat l) ⟨b, h, hm⟩
open Classical in
theorem posB_no {vars : Int} {l : List Cl} (h : ∀ b, LeM (zerosJ vars.toNat) b → ¬ ModJ l b) : posB vars l = false := by
  unfold posB; rw [Bool.and_eq_false_iff]; exact .inr (decide_eq_false (p := HasM vars.toNat l) (by rintro ⟨b, hb, hm⟩; exact h b hb hm))
/-- The least model, where there is one. -/
theorem lm_of {vars : Int} {l : List Cl} (h : posB vars l = true) :
    ∃ V : Nat, vars = (V : Int) ∧ 1 ≤ V ∧ V ≤ 16 ∧ hrB V l = true ∧ LeastJ l (zerosJ V) (lmK V l) ∧ (lmK V l).length = V ∧ natsB (lmK V l) = true := by
  obtain ⟨hr, b, hb, hm⟩ := posB_of h
  obtain ⟨v1, v2, _, v4⟩ := hrB_of hr
  obtain ⟨V, rfl⟩ : ∃ V : Nat, vars = (V : Int) := ⟨vars.toNat, by omega⟩
  have hR : RightJ (zerosJ V).length l := by rw [zerosJ_len]; exact RightJ.of v4
  obtain ⟨a, ha⟩ := least_ex hR hb hm
  have e := lm_is h ha
  have hl : a.length = V := by rw [← ha.1.1, zerosJ_len]
  have h0 := ha.limit (B := 0) hR (fun i _ => by rw [zerosJ_at]; omega)
  have h1 := lim_bd hr
  rw [hl] at h0
  refine ⟨V, rfl, by omega, by omega, hr, by rw [e]; exact ha, by rw [e]; exact hl, ?_⟩
  rw [e]
  refine nats_of fun i => ⟨?_, ?_⟩
  · have := ha.1.2 i
    rwa [zerosJ_at] at this
  · by_cases hi : i < a.length
    · have := h0 i (by omega); omega
    · rw [getD_out (by omega)]; omega
theorem lm_len {vars : Int} {l : List Cl} : (lmK vars l).length ≤ 16 := by
  cases h : posB vars l with
  | true => obtain ⟨V, rfl, _, h2, _, _, h3, _⟩ := lm_of h; omega
  | false => rw [lm_no h]; simp

/-- Is a store right? -/
noncomputable def rgS (vars : Int) (l : List Cl) (m : List Int) : Bool := posB vars l && eqI (lmK vars l) m
theorem rgS_of {vars : Int} {l : List Cl} {m : List Int} (h : rgS vars l m = true) : posB vars l = true ∧ m = lmK vars l := by
  unfold rgS eqI at h
  simp only [Bool.and_eq_true, decide_eq_true_eq] at h
  exact ⟨h.1, h.2.symm⟩
theorem rgS_lm {vars : Int} {l : List Cl} (h : posB vars l = true) : rgS vars l (lmK vars l) = true := by
  unfold rgS eqI; rw [h]; simp
/-- What a new store is: how many variables, and its model. -/
def newV (vars : Int) : Int := if 1 ≤ vars ∧ vars ≤ 16 then vars else 0
def newE (vars : Int) : Int := if 1 ≤ vars ∧ vars ≤ 16 then 0 else 1
theorem hr_nil {vars : Int} (h : 1 ≤ vars ∧ vars ≤ 16) : hrB vars [] = true := by
  obtain ⟨V, rfl⟩ : ∃ V : Nat, vars = (V : Int) := ⟨vars.toNat, by omega⟩
  exact hrB_mk (by omega) (by omega) (by simp) (by simp)
theorem pos_nil {vars : Int} (h : 1 ≤ vars ∧ vars ≤ 16) : posB vars [] = true := posB_yes (hr_nil h) (LeM.refl _) (fun c hc => (by cases hc))
theorem lm_nil {vars : Int} (h : 1 ≤ vars ∧ vars ≤ 16) : lmK vars [] = zerosJ vars.toNat := lm_is (pos_nil h) ⟨LeM.refl _, fun c hc => (by cases hc), fun _ hb _ => hb⟩
theorem new_right {vars : Int} (h : 1 ≤ vars ∧ vars ≤ 16) : newV vars = vars ∧ newE vars = 0 ∧ rgS vars [] (zerosJ (newV vars).toNat) = true := by
  have e : newV vars = vars := if_pos h
  refine ⟨e, if_pos h, ?_⟩
  rw [e, ← lm_nil h]
  exact rgS_lm (pos_nil h)
/-- What Add tells: the error, the clauses, the model, the places. -/
noncomputable def addE (vars : Int) (l : List Cl) (m : List Int) (k : List Cl) : Int :=
  if rgS vars l m = true then (if 60 < l.length + k.length then 2 else if hrB vars (l ++ k) = true then (if posB vars (l ++ k) = true then 0 else 30) else 1) else 1
noncomputable def addL (vars : Int) (l : List Cl) (m : List Int) (k : List Cl) : List Cl := if addE vars l m k = 0 then l ++ k else l
noncomputable def addM (vars : Int) (l : List Cl) (m : List Int) (k : List Cl) : List Int := if addE vars l m k = 0 then lmK vars (l ++ k) else m
noncomputable def addC (vars : Int) (l : List Cl) (m : List Int) (k : List Cl) : List Int := if addE vars l m k = 30 then coreR vars (l ++ k) else []
/-- The four ways of an Add, in one predicate. -/
def AdIs (vars : Int) (l : List Cl) (m : List Int) (k : List Cl) (L : List Cl) (M C : List Int) (E : Int) : Prop := L = addL vars l m k ∧ M = addM vars l m k ∧ C = addC vars l m k ∧ E = addE vars l m k
theorem ad_wrong {vars : Int} {l k : List Cl} {m : List Int} (h : rgS vars l m = false) : AdIs vars l m k l m [] 1 := by
  have e : addE vars l m k = 1 := by unfold addE; rw [if_neg (by rw [h]; exact Bool.false_ne_true)]
  unfold AdIs addL addM addC
  rw [e]
  exact ⟨rfl, rfl, rfl, rfl⟩
theorem ad_long {vars : Int} {l k : List Cl} {m : List Int} (h : rgS vars l m = true) (h2 : 60 < l.length + k.length) : AdIs vars l m k l m [] 2 := by
  have e : addE vars l m k = 2 := by unfold addE; rw [if_pos h, if_pos h2]
  unfold AdIs addL addM addC
  rw [e]
  exact ⟨rfl, rfl, rfl, rfl⟩
theorem ad_right {vars : Int} {l k : List Cl} {m : List Int} (h : rgS vars l m = true) (h2 : ¬ 60 < l.length + k.length) (h3 : hrB vars (l ++ k) = false) : AdIs vars l m k l m [] 1 := by
  have e : addE vars l m k = 1 := by unfold addE; rw [if_pos h, if_neg h2, if_neg (by rw [h3]; exact Bool.false_ne_true)]
  unfold AdIs addL addM addC
  rw [e]
  exact ⟨rfl, rfl, rfl, rfl⟩
theorem ad_loop {vars : Int} {l k : List Cl} {m : List Int} (h : rgS vars l m = true) (h2 : ¬ 60 < l.length + k.length) (h3 : hrB vars (l ++ k) = true) (h4 : posB vars (l ++ k) = false) : AdIs vars l m k l m (coreR vars (l ++ k)) 30 := by
  have e : addE vars l m k = 30 := by unfold addE; rw [if_pos h, if_neg h2, if_pos h3, if_neg (by rw [h4]; exact Bool.false_ne_true)]
  unfold AdIs addL addM addC
  rw [e]
  exact ⟨rfl, rfl, rfl, rfl⟩
theorem ad_yes {vars : Int} {l k : List Cl} {m : List Int} (h : rgS vars l m = true) (h2 : ¬ 60 < l.length + k.length) (h4 : posB vars (l ++ k) = true) : AdIs vars l m k (l ++ k) (lmK vars (l ++ k)) [] 0 := by
  have e : addE vars l m k = 0 := by unfold addE; rw [if_pos h, if_neg h2, if_pos (posB_of h4).1, if_pos h4]
  unfold AdIs addL addM addC
  rw [e]
  exact ⟨rfl, rfl, rfl, rfl⟩
theorem addC_len {vars : Int} {l k : List Cl} {m : List Int} : (addC vars l m k).length ≤ l.length + k.length := by
  unfold addC
  split
  · have := coreR_len vars (l ++ k)
    rwa [List.length_append] at this
  · simp
theorem addL_len {vars : Int} {l k : List Cl} {m : List Int} : (addL vars l m k).length ≤ l.length + k.length := by
  unfold addL
  split
  · rw [List.length_append]; exact Nat.le_refl _
  · omega
theorem addM_len {vars : Int} {l k : List Cl} {m : List Int} : (addM vars l m k).length ≤ m.length + 16 := by
  unfold addM
  split
  · have := @lm_len vars (l ++ k); omega
  · omega
/-- The store that Add tells is right, if the store was. -/
theorem add_right {vars : Int} {l k : List Cl} {m : List Int} (h : rgS vars l m = true) : rgS vars (addL vars l m k) (addM vars l m k) = true := by
  unfold addL addM
  by_cases e : addE vars l m k = 0
  · rw [if_pos e, if_pos e]
    unfold addE at e
    rw [if_pos h] at e
    split at e
    · exact absurd e (by decide)
    · split at e
      · split at e
        · rename_i h4; exact rgS_lm h4
        · exact absurd e (by decide)
      · exact absurd e (by decide)
  · rw [if_neg e, if_neg e]; exact h

/-- The clauses by which a clause is broken. -/
def notK (a : At) (b : List At) : List Cl := b.map fun x => (([a] : List At), (x.1, x.2 + 1))
theorem notK_len (a : At) (b : List At) : (notK a b).length = b.length := by simp [notK]
theorem notK_snoc (a : At) (b : List At) (x : At) : notK a (b ++ [x]) = notK a b ++ [([a], (x.1, x.2 + 1))] := by simp [notK]
theorem notK_take (a : At) {b : List At} {i : Nat} (hi : i < b.length) : notK a (b.take (i + 1)) = notK a (b.take i) ++ [([a], ((b.getD i at0).1, (b.getD i at0).2 + 1))] := by
  rw [take_getD b at0 hi, notK_snoc]
theorem brk_one {m : List Int} {a x : At} : brkB m ([a], (x.1, x.2 + 1)) = false ↔ valA m a < valA m x := by
  unfold brkB askC lowA valA
  simp only [List.getD_cons_zero, List.foldl_cons, List.foldl_nil, decide_eq_false_iff_not]
  omega
theorem brk_not {m : List Int} {a : At} {b : List At} (hb : b ≠ []) : brkB m (b, a) = true ↔ ModJ (notK a b) m := by
  obtain ⟨y, r, rfl⟩ := List.exists_cons_of_ne_nil hb
  have h := lowA_mem m (y :: r) (valA m y)
  have e : askC (y :: r, a) m = lowA m (valA m y) (y :: r) + a.2 := rfl
  have e2 : brkB m (y :: r, a) = true ↔ valA m a < lowA m (valA m y) (y :: r) := by
    show decide (m.getD a.1.toNat 0 < askC (y :: r, a) m) = true ↔ m.getD a.1.toNat 0 - a.2 < lowA m (valA m y) (y :: r)
    rw [decide_eq_true_eq, e]
    omega
  rw [e2]
  constructor
  · intro hlt c hc
    obtain ⟨x, hx, rfl⟩ := List.mem_map.1 hc
    exact brk_one.2 (Int.lt_of_lt_of_le hlt (h.2 x hx))
  · intro hm
    rcases h.1 with h1 | ⟨x, hx, h1⟩
    · rw [h1]; exact brk_one.1 (hm _ (List.mem_map.2 ⟨y, by simp, rfl⟩))
    · rw [h1]; exact brk_one.1 (hm _ (List.mem_map.2 ⟨x, hx, rfl⟩))
theorem modJ_app {l k : List Cl} {m : List Int} : ModJ (l ++ k) m ↔ ModJ l m ∧ ModJ k m := by
  constructor
  · intro h
    exact ⟨fun c hc => h c (List.mem_append.2 (.inl hc)), fun c hc => h c (List.mem_append.2 (.inr hc))⟩
  · rintro ⟨h1, h2⟩ c hc
    rcases List.mem_append.1 hc with h | h
    · exact h1 c h
    · exact h2 c h
/-- What Follows tells: the error, the answer. -/
noncomputable def folE (vars : Int) (l : List Cl) (m : List Int) (a : At) (b : List At) : Int :=
  if rgS vars l m = true ∧ hrB vars [(b, a)] = true then (if 60 < l.length + b.length then 2 else if b.any (fun x => decide (1000 ≤ x.2)) = true then 2 else 0) else 1
noncomputable def folB (vars : Int) (l : List Cl) (m : List Int) (a : At) (b : List At) : Bool := decide (folE vars l m a b = 0) && !posB vars (l ++ notK a b)
theorem fol_wrong {vars : Int} {l : List Cl} {m : List Int} {a : At} {b : List At} (h : rgS vars l m = false ∨ hrB vars [(b, a)] = false) : folE vars l m a b = 1 ∧ folB vars l m a b = false := by
  have e : folE vars l m a b = 1 := by
    unfold folE
    rw [if_neg]
    rintro ⟨h1, h2⟩
    rcases h with h | h
    · rw [h] at h1; cases h1
    · rw [h] at h2; cases h2
  refine ⟨e, ?_⟩
  unfold folB
  rw [e]
  rfl
theorem fol_long {vars : Int} {l : List Cl} {m : List Int} {a : At} {b : List At} (h1 : rgS vars l m = true) (h2 : hrB vars [(b, a)] = true) (h : 60 < l.length + b.length ∨ b.any (fun x => decide (1000 ≤ x.2)) = true) : folE vars l m a b = 2 ∧ folB vars l m a b = false := by
  have e : folE vars l m a b = 2 := by
    unfold folE
    rw [if_pos ⟨h1, h2⟩]
    split
    · rfl
    · rw [if_pos (by rcases h with h | h; · exact absurd h ‹_›
                     · exact h)]
  refine ⟨e, ?_⟩
  unfold folB
  rw [e]
  rfl
theorem fol_yes {vars : Int} {l : List Cl} {m : List Int} {a : At} {b : List At} (h1 : rgS vars l m = true) (h2 : hrB vars [(b, a)] = true) (h3 : ¬ 60 < l.length + b.length) (h4 : b.any (fun x => decide (1000 ≤ x.2)) = false) : folE vars l m a b = 0 ∧ folB vars l m a b = !posB vars (l ++ notK a b) := by
  have e : folE vars l m a b = 0 := by
    unfold folE
    rw [if_pos ⟨h1, h2⟩, if_neg h3, if_neg (by rw [h4]; exact Bool.false_ne_true)]
  refine ⟨e, ?_⟩
  unfold folB
  rw [e]
  rfl
theorem hr_one {V : Nat} {a : At} {b : List At} (h : hrB V [(b, a)] = true) : 1 ≤ b.length ∧ b.length ≤ 6 ∧ atB V a = true ∧ b.all (atB V) = true := by
  obtain ⟨_, _, _, h4⟩ := hrB_of h
  simp only [List.all_cons, List.all_nil, Bool.and_true] at h4
  obtain ⟨c1, c2, c3⟩ := clB_of h4
  have := frB_of c2
  exact ⟨this.1, this.2, c1, c3⟩
/-- What is broken is said by right clauses. -/
theorem hr_not {V : Nat} {l : List Cl} {a : At} {b : List At} (h1 : hrB V l = true) (h2 : hrB V [(b, a)] = true) (h3 : ¬ 60 < l.length + b.length) (h4 : b.any (fun x => decide (1000 ≤ x.2)) = false) : hrB V (l ++ notK a b) = true := by
  obtain ⟨v1, v2, v3, v4⟩ := hrB_of h1
  obtain ⟨_, _, c1, c3⟩ := hr_one h2
  refine hrB_mk (by omega) (by omega) (by rw [List.length_append, notK_len]; omega) ?_
  rw [List.all_append, v4, Bool.true_and]
  refine List.all_eq_true.2 fun c hc => ?_
  obtain ⟨x, hx, rfl⟩ := List.mem_map.1 hc
  have h5 := List.all_eq_true.1 c3 x hx
  have h6 : ¬ 1000 ≤ x.2 := fun h => by
    have : b.any (fun x => decide (1000 ≤ x.2)) = true := List.any_eq_true.2 ⟨x, hx, decide_eq_true h⟩
    rw [h4] at this; cases this
  have h7 := atB_of h5
  have h8 : atB V (x.1, x.2 + 1) = true := by
    unfold atB
    simp only [Bool.and_eq_true, decide_eq_true_eq]
    omega
  unfold clB frB
  rw [h8]
  simp [c1]
theorem ne_of_len {b : List At} (h : 1 ≤ b.length) : b ≠ [] := fun e => by rw [e] at h; simp at h
/-- THE STAGE's THEOREM, first part: what follows holds of each model. -/
theorem fol_holds {V : Nat} {l : List Cl} {a : At} {b : List At} {m : List Int} (h1 : hrB V l = true) (h2 : hrB V [(b, a)] = true) (h3 : ¬ 60 < l.length + b.length) (h4 : b.any (fun x => decide (1000 ≤ x.2)) = false) (hf : posB V (l ++ notK a b) = false) (hm : LeM (zerosJ V) m) (hl : ModJ l m) : brkB m (b, a) = false := by
  cases hb : brkB m (b, a) with
  | false => rfl
  | true =>
    have hn := (brk_not (ne_of_len (hr_one h2).1)).1 hb
    have := posB_yes (vars := V) (hr_not h1 h2 h3 h4) hm (modJ_app.2 ⟨hl, hn⟩)
    rw [hf] at this; cases this
/-- It makes no difference to the least model, if it is added. -/
theorem fol_same {V : Nat} {l : List Cl} {a : At} {b : List At} (hp : posB V l = true) (h2 : hrB V [(b, a)] = true) (h3 : ¬ 60 < l.length + b.length) (h4 : b.any (fun x => decide (1000 ≤ x.2)) = false) (hf : posB V (l ++ notK a b) = false) :
    posB V (l ++ [(b, a)]) = true ∧ lmK V (l ++ [(b, a)]) = lmK V l := by
  obtain ⟨V', e, h5, h6, hr, hL, hlen, hn⟩ := lm_of hp
  obtain rfl : V = V' := by omega
  obtain ⟨v1, v2, v3, v4⟩ := hrB_of hr
  have hone := hr_one h2
  have hb := fol_holds hr h2 h3 h4 hf hL.1 hL.2.1
  have hm : ModJ (l ++ [(b, a)]) (lmK V l) := modJ_app.2 ⟨hL.2.1, fun c hc => by rw [List.mem_singleton.1 hc]; exact hb⟩
  have hr2 : hrB V (l ++ [(b, a)]) = true := by
    refine hrB_mk (by omega) (by omega) (by rw [List.length_append, List.length_singleton]; omega) ?_
    rw [List.all_append, v4, Bool.true_and]
    exact (hrB_of h2).2.2.2
  have hp2 := posB_yes (vars := V) hr2 hL.1 hm
  exact ⟨hp2, lm_is hp2 ⟨hL.1, hm, fun c hc hcm => hL.2.2 c hc (modJ_app.1 hcm).1⟩⟩
/-- What does not follow is broken by the least model of what is turned round. -/
theorem fol_not {V : Nat} {l : List Cl} {a : At} {b : List At} (hb : b ≠ []) (hf : posB V (l ++ notK a b) = true) : brkB (lmK V (l ++ notK a b)) (b, a) = true := by
  obtain ⟨V', e, _, _, _, hL, _, _⟩ := lm_of hf
  obtain rfl : V = V' := by omega
  exact (brk_not hb).2 (modJ_app.1 hL.2.1).2
/-- It follows still, behind more. -/
theorem fol_more {V : Nat} {l d : List Cl} {a : At} {b : List At} (hf : posB V (l ++ notK a b) = false) (hr : hrB V (l ++ notK a b) = true) : posB V (l ++ d ++ notK a b) = false := by
  refine posB_no fun m hm hmod => ?_
  obtain ⟨h1, h2⟩ := modJ_app.1 hmod
  have := posB_yes (vars := V) hr hm (modJ_app.2 ⟨(modJ_app.1 h1).1, h2⟩)
  rw [hf] at this; cases this
end Go.Proofs.Ytglggigndhbpcaa
