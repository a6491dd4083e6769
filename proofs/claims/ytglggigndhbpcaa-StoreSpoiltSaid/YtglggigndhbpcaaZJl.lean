/- What lies in memory as the program's own rounds go on, and the copy that they begin with. No condition but those that stand in each statement. -/
import Derived.Test.YtglggigndhbpcaaZJrounds
import Derived.Test.YtglggigndhbpcaaZJd
import Derived.Test.YtglggigndhbpcaaZJclone
import Derived.Laws.CopyRow
namespace Go.Proofs.Ytglggigndhbpcaa
open Go.RowKit Go.Shelf
attribute [local go_sem] Oper.semAt_some

theorem pad_cells {m : List Int} (hm : m.length ≤ 16) : ((arrI fun _ => 0).toList.take 0 ++ m.map (Value.int .i64) ++ (arrI fun _ => 0).toList.drop (0 + m.length)).toArray = aM m := by
  refine Array.ext_getElem? fun i => ?_
  have hz : ∀ j, j < 16 → (arrI fun _ => 0).toList[j]? = some (.int .i64 0) := fun j hj => by rw [Array.getElem?_toList]; exact arrI_at _ j hj
  simp only [List.take_zero, List.nil_append, Nat.zero_add, List.getElem?_toArray]
  by_cases hi : i < 16
  · rw [aM_at m hi]
    by_cases h : i < m.length
    · rw [List.getElem?_append_left (by simpa using h), List.getElem?_map, List.getElem?_eq_getElem h, List.getD_eq_getElem?_getD, List.getElem?_eq_getElem h]; rfl
    · rw [List.getElem?_append_right (by simp; omega), List.getElem?_drop, List.length_map, show m.length + (i - m.length) = i by omega, hz i hi, getD_out (by omega)]
  · rw [List.getElem?_eq_none (by simp [arrI_size]; omega), Array.getElem?_eq_none (by show 16 ≤ i; omega)]
/-- Some numbers are copied into an array of noughts. -/
theorem copy_arr {w : World} {b : Nat} {P : Nat → Prop} {m : List Int} {am : Option Addr} {cm : Nat} (ty : TypeId) (hc : w.heap[b]? = some (.cells (arrI fun _ => 0) 97 (0, 0))) (him : IntsIn w P m am cm) (h1 : 1 ≤ m.length) (hm : m.length ≤ 16) :
    ∃ w', Hid ((Builtin.copy_ #[23, 23] ty #[.slice (some ⟨b, 0, none⟩) 16 16, .slice am m.length cm]).run Try.prog w = .ok (goInt m.length) w') ∧ Hid (w'.heap[b]? = some (.cells (aM m) 97 (0, 0))) ∧ Hid (w.grownBy w' (some b)) := by
  obtain ⟨i0, hi, hz0, hz1, hz2⟩ := info_parts infoInt
  obtain ⟨g, o, rfl, _, hat⟩ := him.some (by omega)
  have hs : ∀ j u, (m.map (Value.int .i64))[j]? = some u → w.cell? ((⟨g, o, none⟩ : Addr).add j) = some u := by
    intro j u hj
    have hjl : j < m.length := by have := (List.getElem?_eq_some_iff.1 hj).1; simpa using this
    rw [List.getElem?_map, List.getElem?_eq_getElem hjl] at hj
    have ha : (⟨g, o, none⟩ : Addr).add j = ⟨g, o + j, none⟩ := by unfold Addr.add; split <;> simp_all
    rw [ha, hat j hjl, ← hj, List.getD_eq_getElem?_getD, List.getElem?_eq_getElem hjl]
    rfl
  have hone : ∀ u ∈ m.map (Value.int .i64), u.oneCell' = true := by
    intro u hu
    obtain ⟨z, _, rfl⟩ := List.mem_map.1 hu
    rfl
  have := run_copy_row (P := Try.prog) w 23 23 ty 3 b 0 16 16 ⟨g, o, none⟩ m.length cm (arrI fun _ => 0) 97 (m.map (Value.int .i64)) Try.underlying23 (by rw [hi]; simp [hz1]) hc (by rw [List.length_map]; exact (Nat.min_eq_left hm).symm) hs (by simp [arrI_size]; omega) hone
  rw [List.length_map, pad_cells hm] at this
  exact ⟨_, Lib.hid this, Lib.hid (setRow_heap w b _ _ _ _ hc), Lib.hid (rowA_grown w b _)⟩
theorem wpListIn_copy_run {F : Fence} {n : Nat} {P : Program} {ops : Array Oper} {rest : List Oper} {o : Oper} {a : Act} {w w' : World} {Q : Exit → Act → World → Prop} {v y v' : Value} (hgd : o.guard = none) (s x : Operand) (t t' : TypeId)
    (ho : o.op = .call { callee := .builtin .copy, args := #[s, x], argTypes := #[t, t'] }) (hs : a.eval s = v) (hx : a.eval x = y) (hrun : (Builtin.copy_ #[t, t'] o.type #[v, y]).run P w = .ok v' w') (h : wpListIn F n P ops Q rest (a.put o.dst v') w') :
    wpListIn F n P ops Q (o :: rest) a w := by
  refine wpListIn_plain hgd fun K hK => ⟨?_, ?_⟩
  · simp [Oper.about, ho, resolve, Target.leads, Sem.run_pure]
  · rw [Oper.semAt_plain F _ _ (by rw [ho]; intro c hc; cases hc)]
    unfold execOp
    simp only [ho, resolve, invoke, builtin, Sem.run_bind, Sem.run_pure, Result.andThen_ok, List.map_toArray, List.map_cons, List.map_nil, hs, hx, hrun]
    exact hK _ _ h
/-- What the program's rounds answer. -/
def LtPost (l : List Cl) (m : List Int) (most : Int) (w : World) (e : Ending) (w' : World) : Prop :=
  ∃ (a : List Int) (is : Bool) (j : Nat) (x : Option Addr) (c : Nat), e = .returned (.tuple #[.slice x a.length c, .bool is, .int .i64 j]) ∧ TellJ l m most a is ((j : Int) * l.length) ∧ (j : Int) * l.length ≤ 100000000 ∧ IOwn w' w.heap.size (.slice x a.length c) a ∧ Below w.heap.size w w'
theorem LowFrom.and {B : Nat} {I J : Nat → World → Prop} (h : LowFrom B I) (k : LowFrom B J) : LowFrom B (fun i W => I i W ∧ J i W) := fun i W W' row hs hg hr => ⟨h i W W' row hs.1 hg hr, k i W W' row hs.2 hg hr⟩
theorem LowFrom.pure {B : Nat} (p : Nat → Prop) : LowFrom B (fun i _ => p i) := fun _ _ _ _ hs _ _ => hs
theorem LowFrom.block {B b : Nat} (hb : b < B) (o : Nat → Obj) : LowFrom B (fun i W => W.heap[b]? = some (o i)) := fun i W W' row hs hg hr => (hg.block b (Array.getElem?_eq_some_iff.1 hs).1 (fun e => by have := hr b e.symm; omega)).trans hs
theorem LowFrom.below {B : Nat} {w : World} (hb : w.heap.size ≤ B) : LowFrom B (fun _ W => Below w.heap.size w W) := fun i W W' row hs hg hr => hs.grown hg hs.size (fun k e => by have := hr k e; omega)
theorem KpO.grown {B b : Nat} {O : Nat → Prop} {W W' : World} (hg : W.grownBy W' (some b)) (hO : O b) (hb : B ≤ b) (hB : B ≤ W.heap.size) : KpO B O W W' :=
  ⟨hg.size, fun c hc => hg.block c (by omega) (fun e => by injection e; omega), fun c o h1 _ h3 => (hg.block c (Array.getElem?_eq_some_iff.1 h1).1 (fun e => h3 (by injection e with e; rw [e]; exact hO))).trans h1⟩
/-- The greatest number of an array that holds a model. -/
theorem max_arr (W : World) (b : Nat) (ma : List Int) (h : W.heap[b]? = some (.cells (aM ma) 97 (0, 0))) (hm : ma.length ≤ 16) : Calls Try.prog 63 #[.slice (some ⟨b, 0, none⟩) 16 16] W fun e w' => e = .returned (.int .i64 (maxL (pad ma))) ∧ W = w' := by
  have := maxInts_any (pad ma) (some ⟨b, 0, none⟩) 16 (b + 1) W (by rw [pad_len]; omega) (pad_in h hm (Nat.lt_succ_self b))
  rwa [pad_len] at this
theorem max_great {ma : List Int} {most : Int} (hm : ma.length ≤ 16) (h0 : 0 ≤ most) : decide (most < maxL (pad ma)) = grB most ma := by
  rw [maxL_gr (by rw [pad_len]; omega), gr_pad hm h0]
/-- What lies in memory as the rounds go on: the results' places (from S on), the array, the bound and the count (at H). -/
def LtB (w : World) (S H : Nat) (hi : Int) (ma : List Int) (k : Nat) (W : World) : Prop :=
  W.heap[S]? = some (.cells #[.slice none 0 0] 23 (0, 0)) ∧ W.heap[S + 1]? = some (.cells #[.bool false] 4 (0, 0)) ∧ W.heap[S + 1 + 1]? = some (.cells #[.int .i64 0] 3 (0, 0)) ∧ W.heap[S + 1 + 1 + 1]? = some (.cells (aM ma) 97 (0, 0)) ∧
    W.heap[H]? = some (.cells #[.int .i64 hi] 3 (0, 0)) ∧ W.heap[H + 1]? = some (.cells #[.int .i64 k] 3 (0, 0)) ∧ Below w.heap.size w W
theorem LtB.low {w : World} {S H B : Nat} {hi : Int} {f : Nat → List Int} {g : Nat → Nat} (h1 : S + 1 + 1 + 1 < B) (h2 : H + 1 < B) (h3 : w.heap.size ≤ B) : LowFrom B (fun k W => LtB w S H hi (f k) (g k) W) :=
  (LowFrom.block (by omega) _).and ((LowFrom.block (by omega) _).and ((LowFrom.block (by omega) _).and ((LowFrom.block h1 (fun k => .cells (aM (f k)) 97 (0, 0))).and ((LowFrom.block (by omega) _).and ((LowFrom.block h2 (fun k => .cells #[.int .i64 (g k)] 3 (0, 0))).and (LowFrom.below h3))))))
theorem keepsGrown {B b : Nat} {W W' : World} {cs : Array Value} {t : TypeId} {fr : Nat × Nat} (hg : W.grownBy W' (some b)) (hb : W.heap[b]? = some (.cells cs t fr)) : KeepsFrom B W W' :=
  (KeepsOthers.of_grownBy hg (fun j o e h => by injection e with e; subst e; rw [hb] at h; cases h; rfl)).from B
/-- The array is set. -/
theorem LtB.arr {w W W' : World} {S H : Nat} {hi : Int} {ma mb : List Int} {k : Nat} (h : LtB w S H hi ma k W) (hw : w.heap.size ≤ S) (hH : S + 1 + 1 + 1 < H) (hg : W.grownBy W' (some (S + 1 + 1 + 1))) (hx : W'.heap[S + 1 + 1 + 1]? = some (.cells (aM mb) 97 (0, 0))) : LtB w S H hi mb k W' := by
  obtain ⟨h1, h2, h3, h4, h5, h6, h7⟩ := h
  have keep : ∀ {b : Nat} {o : Obj}, b ≠ S + 1 + 1 + 1 → W.heap[b]? = some o → W'.heap[b]? = some o := fun hb ho => (hg.block _ (Array.getElem?_eq_some_iff.1 ho).1 (fun e => hb (by injection e))).trans ho
  exact ⟨keep (by omega) h1, keep (by omega) h2, keep (by omega) h3, hx, keep (by omega) h5, keep (by omega) h6, h7.grown hg h7.size (fun k e => by injection e with e; omega)⟩
/-- The count goes up. -/
theorem LtB.cnt {w W : World} {S H : Nat} {hi : Int} {ma : List Int} {k : Nat} (h : LtB w S H hi ma k W) (hw : w.heap.size ≤ S) (hH : S + 1 + 1 + 1 < H) : LtB w S H hi ma (k + 1) (W.setCell ⟨H + 1, 0, none⟩ (.int .i64 ((k : Int) + 1))) := by
  obtain ⟨h1, h2, h3, h4, h5, h6, h7⟩ := h
  have keep : ∀ {b : Nat} {o : Obj}, b ≠ H + 1 → W.heap[b]? = some o → (W.setCell ⟨H + 1, 0, none⟩ (.int .i64 ((k : Int) + 1))).heap[b]? = some o := fun hb ho => (Below.heap_setCell _ _ _ _ hb).trans ho
  refine ⟨keep (by omega) h1, keep (by omega) h2, keep (by omega) h3, keep (by omega) h4, keep (by omega) h5, ?_, h7.setCell (p := ⟨H + 1, 0, none⟩) (by show w.heap.size ≤ H + 1; omega) _⟩
  have := heap_setCell_same W (H + 1) 0 _ _ (.int .i64 ((k : Int) + 1)) h6
  rw [this]; simp
/-- What lies in memory where the rounds have been stopped. -/
def LtX (w : World) (S : Nat) (k : Nat) (W : World) : Prop :=
  W.heap[S]? = some (.cells #[.slice none 0 0] 23 (0, 0)) ∧ W.heap[S + 1]? = some (.cells #[.bool false] 4 (0, 0)) ∧ W.heap[S + 1 + 1]? = some (.cells #[.int .i64 k] 3 (0, 0)) ∧ Below w.heap.size w W
theorem LtX.low {w : World} {S B : Nat} (h1 : S + 1 + 1 + 1 < B) (h3 : w.heap.size ≤ B) : LowFrom B (fun k W => LtX w S k W) :=
  (LowFrom.block (by omega) _).and ((LowFrom.block (by omega) _).and ((LowFrom.block (by omega) (fun k => .cells #[.int .i64 k] 3 (0, 0))).and (LowFrom.below h3)))
theorem LtB.drew {w W : World} {S H : Nat} {hi : Int} {ma : List Int} {k : Nat} (h : LtB w S H hi ma k W) : LtB w S H hi ma k W.drew := ⟨h.1, h.2.1, h.2.2.1, h.2.2.2.1, h.2.2.2.2.1, h.2.2.2.2.2.1, h.2.2.2.2.2.2.drew⟩
/-- The rounds are stopped. -/
theorem LtB.stop {w W : World} {S H : Nat} {hi : Int} {ma : List Int} {k : Nat} (h : LtB w S H hi ma k W) (hw : w.heap.size ≤ S) : LtX w S k (((W.setCell ⟨S, 0, none⟩ (.slice none 0 0)).setCell ⟨S + 1, 0, none⟩ (.bool false)).setCell ⟨S + 1 + 1, 0, none⟩ (.int .i64 k)) := by
  obtain ⟨h1, h2, h3, _, _, _, h7⟩ := h
  refine ⟨(Below.heap_setCell _ _ _ _ (show S ≠ S + 1 + 1 by omega)).trans ((Below.heap_setCell _ _ _ _ (show S ≠ S + 1 by omega)).trans ?_), (Below.heap_setCell _ _ _ _ (show S + 1 ≠ S + 1 + 1 by omega)).trans ?_, ?_, ((h7.setCell (p := ⟨S, 0, none⟩) hw _).setCell (p := ⟨S + 1, 0, none⟩) (by show w.heap.size ≤ S + 1; omega) _).setCell (p := ⟨S + 1 + 1, 0, none⟩) (by show w.heap.size ≤ S + 1 + 1; omega) _⟩
  · rw [heap_setCell_same W S 0 _ _ (.slice none 0 0) h1]; simp
  · rw [heap_setCell_same _ (S + 1) 0 _ _ (.bool false) ((Below.heap_setCell _ _ _ _ (show S + 1 ≠ S by omega)).trans h2)]; simp
  · rw [heap_setCell_same _ (S + 1 + 1) 0 _ _ (.int .i64 k) ((Below.heap_setCell _ _ _ _ (show S + 1 + 1 ≠ S + 1 by omega)).trans ((Below.heap_setCell _ _ _ _ (show S + 1 + 1 ≠ S by omega)).trans h3))]; simp
theorem LtB.below {w W W' : World} {S H : Nat} {hi : Int} {ma : List Int} {k : Nat} (h : LtB w S H hi ma k W) (hb : Below W.heap.size W W') : LtB w S H hi ma k W' := by
  obtain ⟨h1, h2, h3, h4, h5, h6, h7⟩ := h
  have keep : ∀ {b : Nat} {o : Obj}, W.heap[b]? = some o → W'.heap[b]? = some o := fun ho => (hb.block _ (Array.getElem?_eq_some_iff.1 ho).1).trans ho
  exact ⟨keep h1, keep h2, keep h3, keep h4, keep h5, keep h6, Below.step h7 hb (Nat.le_refl _)⟩
/-- The results are set. -/
theorem LtB.fin {w W : World} {S H : Nat} {hi : Int} {ma : List Int} {k : Nat} (h : LtB w S H hi ma k W) (hw : w.heap.size ≤ S) (x : Value) (z : Int) :
    ∃ W', W' = (((W.setCell ⟨S, 0, none⟩ x).setCell ⟨S + 1, 0, none⟩ (.bool true)).setCell ⟨S + 1 + 1, 0, none⟩ (.int .i64 z)) ∧ W'.heap[S]? = some (.cells #[x] 23 (0, 0)) ∧ W'.heap[S + 1]? = some (.cells #[.bool true] 4 (0, 0)) ∧ W'.heap[S + 1 + 1]? = some (.cells #[.int .i64 z] 3 (0, 0)) ∧ Below w.heap.size w W' ∧ ∀ b, b ≠ S → b ≠ S + 1 → b ≠ S + 1 + 1 → W'.heap[b]? = W.heap[b]? := by
  obtain ⟨h1, h2, h3, _, _, _, h7⟩ := h
  refine ⟨_, rfl, (Below.heap_setCell _ _ _ _ (show S ≠ S + 1 + 1 by omega)).trans ((Below.heap_setCell _ _ _ _ (show S ≠ S + 1 by omega)).trans ?_), (Below.heap_setCell _ _ _ _ (show S + 1 ≠ S + 1 + 1 by omega)).trans ?_, ?_, ((h7.setCell (p := ⟨S, 0, none⟩) hw _).setCell (p := ⟨S + 1, 0, none⟩) (by show w.heap.size ≤ S + 1; omega) _).setCell (p := ⟨S + 1 + 1, 0, none⟩) (by show w.heap.size ≤ S + 1 + 1; omega) _, fun b n0 n1 n2 => (Below.heap_setCell _ _ _ _ n2).trans ((Below.heap_setCell _ _ _ _ n1).trans (Below.heap_setCell _ _ _ _ n0))⟩
  · rw [heap_setCell_same W S 0 _ _ x h1]; simp
  · rw [heap_setCell_same _ (S + 1) 0 _ _ (.bool true) ((Below.heap_setCell _ _ _ _ (show S + 1 ≠ S by omega)).trans h2)]; simp
  · rw [heap_setCell_same _ (S + 1 + 1) 0 _ _ (.int .i64 z) ((Below.heap_setCell _ _ _ _ (show S + 1 + 1 ≠ S + 1 by omega)).trans ((Below.heap_setCell _ _ _ _ (show S + 1 + 1 ≠ S by omega)).trans h3))]; simp
theorem keepsDrew {B : Nat} {W W' : World} (h : KeepsFrom B W W') : KeepsFrom B W W'.drew := h.trans ((KeepsOthers.drew W').from B)
theorem keepsSet {B : Nat} {W W' : World} (h : KeepsFrom B W W') (p : Addr) (v : Value) : KeepsFrom B W (W'.setCell p v) := h.trans ((KeepsOthers.setCell W' p v).from B)
theorem KpO.drew {B : Nat} {O : Nat → Prop} {W W' : World} (h : KpO B O W W') : KpO B O W W'.drew := h
/-- How many rounds there are, times the clauses. -/
theorem GoJ.looks {l : List Cl} {m : List Int} {most : Int} {j : Nat} (hr : RightJ m.length l) (h0 : ∀ i, 0 ≤ m.getD i 0) (hm : ∀ i, i < m.length → m.getD i 0 ≤ most) (h1 : 0 ≤ most) (h2 : most ≤ 100000) (hV : m.length ≤ 16) (hl : l.length ≤ 60) (hg : GoJ l m most j) : (((j + 1 : Nat) : Int)) * l.length ≤ 100000000 ∧ (j : Int) ≤ 1600000 := by
  have hb := (hg.bd hr h0 hm h1).1
  have h3 : (m.length : Int) * most ≤ 16 * 100000 := by
    have := Int.mul_le_mul_of_nonneg_right (show (m.length : Int) ≤ 16 by omega) h1
    omega
  have h4 := Int.mul_le_mul_of_nonneg_right (show ((j + 1 : Nat) : Int) ≤ 1600001 by omega) (show (0 : Int) ≤ l.length by omega)
  omega
end Go.Proofs.Ytglggigndhbpcaa
/- The contract of the program's own rounds from a model on. Conditions: the clauses are right for as many variables as there are values; these are from 0 to 1000. -/
namespace Go.Proofs.Ytglggigndhbpcaa
open Go.RowKit Go.Shelf
attribute [local go_sem] Oper.semAt_some

set_option maxRecDepth 100000 in
set_option maxHeartbeats 8000000 in
theorem jleast_in (n' : Nat) (m : List Int) (l : List Cl) (a am : Option Addr) (cap cm B : Nat) (w : World) (hr : hrB m.length l = true) (h0m : ∀ i, 0 ≤ m.getD i 0) (hmx : maxL m ≤ 1000) (hin : ClsIn w (· < B) l a cap) (him : IntsIn w (· < B) m am cm) (hB : B ≤ w.heap.size) :
    CallsIn Fence.wide n' Try.prog 50 #[.slice a l.length cap, .slice am m.length cm] w (LtPost l m (hiJ m l) w) := by
  have hdd : ∀ k : Nat, (Fence.wide.depth.isSome = true → 1 ≤ k) := fun k h => by cases h
  have hlen := hin.len
  have hlm := him.len
  obtain ⟨v1, v2, v3, v4⟩ := hrB_of hr
  have hV1 : 1 ≤ m.length := by omega
  have hV : m.length ≤ 16 := by omega
  have hmm : ∀ i, i < m.length → m.getD i 0 ≤ maxL m := fun i hi => maxL_ge hi
  have hnat : natsB m = true := nats_of fun i => ⟨h0m i, by
    by_cases hi : i < m.length
    · have := hmm i hi; omega
    · rw [getD_out (by omega)]; omega⟩
  have hlim := lim_bd hr
  have hx0 := (maxL_bd (X := 1099511627776) hV1 (fun i => natsB_getD hnat i)).1
  have hh0 : 0 ≤ hiJ m l := by unfold hiJ; omega
  have hh1 : hiJ m l ≤ 16000 := by unfold hiJ; omega
  have hmh : ∀ i, i < m.length → m.getD i 0 ≤ hiJ m l := fun i hi => by have := hmm i hi; unfold hiJ; omega
  have CH := fun (W : World) (hW : Below w.heap.size w W) => jhighest_any m l a am cap cm B W hr hnat (hin.below (hW.mono hB)) (him.below (hW.mono hB)) (Nat.le_trans hB hW.size)
  generalize hiJ m l = hi at hh0 hh1 hmh CH ⊢
  have HCH := Lib.hid CH
  have HI := Lib.hid hin
  have HR := Lib.hid (RightJ.of v4)
  have HZM := Lib.hid h0m
  have HMH := Lib.hid hmh
  have harr : #[Value.int .i64 0, Value.int .i64 0, Value.int .i64 0, Value.int .i64 0, Value.int .i64 0, Value.int .i64 0, Value.int .i64 0, Value.int .i64 0, Value.int .i64 0, Value.int .i64 0, Value.int .i64 0, Value.int .i64 0, Value.int .i64 0, Value.int .i64 0, Value.int .i64 0, Value.int .i64 0] = arrI fun _ => 0 := rfl
  have hb0 : Below w.heap.size w ((((w.alloc (.cells #[.slice none 0 0] 23)).alloc (.cells #[.bool false] 4)).alloc (.cells #[.int .i64 0] 3)).alloc (.cells (arrI fun _ => 0) 97)) := ((((Below.refl _ _).alloc (Nat.le_refl _) _).alloc (by simp) _).alloc (by simp; omega) _).alloc (by simp; omega) _
  have hz0 : ((((w.alloc (.cells #[.slice none 0 0] 23)).alloc (.cells #[.bool false] 4)).alloc (.cells #[.int .i64 0] 3)).alloc (.cells (arrI fun _ => 0) 97)).heap.size = w.heap.size + 4 := by simp
  have hS0 : ((((w.alloc (.cells #[.slice none 0 0] 23)).alloc (.cells #[.bool false] 4)).alloc (.cells #[.int .i64 0] 3)).alloc (.cells (arrI fun _ => 0) 97)).heap[w.heap.size]? = some (.cells #[.slice none 0 0] 23 (0, 0)) := (heap_old _ _ (by simp; omega)).trans ((heap_old _ _ (by simp; omega)).trans ((heap_old _ _ (by simp)).trans (heap_new _ _)))
  have hS1 : ((((w.alloc (.cells #[.slice none 0 0] 23)).alloc (.cells #[.bool false] 4)).alloc (.cells #[.int .i64 0] 3)).alloc (.cells (arrI fun _ => 0) 97)).heap[w.heap.size + 1]? = some (.cells #[.bool false] 4 (0, 0)) := (heap_old _ _ (by simp)).trans ((heap_old _ _ (by simp)).trans (heap_second _ _ _))
  have hS2 : ((((w.alloc (.cells #[.slice none 0 0] 23)).alloc (.cells #[.bool false] 4)).alloc (.cells #[.int .i64 0] 3)).alloc (.cells (arrI fun _ => 0) 97)).heap[w.heap.size + 1 + 1]? = some (.cells #[.int .i64 0] 3 (0, 0)) := (heap_old _ _ (by simp)).trans (by have := heap_new ((w.alloc (.cells #[.slice none 0 0] 23)).alloc (.cells #[.bool false] 4)) (.cells #[.int .i64 0] 3); simpa using this)
  have hS3 : ((((w.alloc (.cells #[.slice none 0 0] 23)).alloc (.cells #[.bool false] 4)).alloc (.cells #[.int .i64 0] 3)).alloc (.cells (arrI fun _ => 0) 97)).heap[w.heap.size + 1 + 1 + 1]? = some (.cells (arrI fun _ => 0) 97 (0, 0)) := by have := heap_new (((w.alloc (.cells #[.slice none 0 0] 23)).alloc (.cells #[.bool false] 4)).alloc (.cells #[.int .i64 0] 3)) (.cells (arrI fun _ => 0) 97); simpa using this
  obtain ⟨W1, HRUN, HX1, HG1⟩ := copy_arr 3 hS3 (him.below (hb0.mono hB)) hV1 hV
  have HB1 : Hid (Below w.heap.size w W1) := Lib.hid (hb0.grown HG1.out hb0.size (fun k e => by injection e with e; omega))
  have HZ1 : Hid (w.heap.size + 4 ≤ W1.heap.size) := Lib.hid (by have := HG1.out.size; omega)
  have HS0 : Hid (W1.heap[w.heap.size]? = some (.cells #[.slice none 0 0] 23 (0, 0))) := Lib.hid ((HG1.out.block _ (lt_of_block hS0) (fun e => by injection e with e; omega)).trans hS0)
  have HS1 : Hid (W1.heap[w.heap.size + 1]? = some (.cells #[.bool false] 4 (0, 0))) := Lib.hid ((HG1.out.block _ (lt_of_block hS1) (fun e => by injection e with e; omega)).trans hS1)
  have HS2 : Hid (W1.heap[w.heap.size + 1 + 1]? = some (.cells #[.int .i64 0] 3 (0, 0))) := Lib.hid ((HG1.out.block _ (lt_of_block hS2) (fun e => by injection e with e; omega)).trans hS2)
  have HCH1 := Lib.hid (HCH.out W1 HB1.out)
  obtain ⟨f, hf⟩ : ∃ f : Nat → Int, f = fun i => m.getD i 0 := ⟨_, rfl⟩
  have hF : aM m = arrI f := by rw [hf]; rfl
  have HF := Lib.hid hF
  have HX1f := HX1
  rw [hF] at HX1f
  clear hf hF hb0 hz0 hS0 hS1 hS2 hS3 HG1 HCH CH hin him hr h0m hmh hmm hnat hlim v4 v1 v2
  refine callsIn_of_wp_marks Try.func50 rfl trivial ?_ rfl
  simp only [Try.ntmps50, List.size_toArray, List.length_cons, List.length_nil, Nat.reduceAdd, Nat.reduceSub, Array.replicate_succ, Array.replicate_zero, List.push_toArray, List.append_toArray, List.nil_append, List.cons_append]
  gi_wp2_with (first | (refine wpListIn_copy_run (by rfl) _ _ _ _ (by rfl) (by rfl) (by rfl) HRUN.out ?_) | (refine ⟨trivial, hdd _, ?_⟩; gi_at_call 61; refine (callsIn_wide.2 HCH1.out).mono ?_; rintro e w2 ⟨rfl, hb2⟩; have hX2 : ((w2.alloc (.cells #[.int .i64 hi] 3)).alloc (.cells #[.int .i64 0] 3)).heap[w.heap.size + 1 + 1 + 1]? = some (.cells (arrI f) 97 (0, 0)) := (heap_old _ _ (by have := HZ1.out; have := hb2.size; simp; omega)).trans ((heap_old _ _ (by have := HZ1.out; have := hb2.size; omega)).trans ((hb2.block _ (by have := HZ1.out; omega)).trans HX1f.out))) | (refine wpListIn_loadA (by rfl) _ rfl rfl (by assumption) ?_) | (refine ⟨trivial, hdd _, ?_⟩; gi_at_call 62; refine (jrounds_in _ _ _ _ _ _).mono ?_; rintro e w' ⟨rfl, rfl⟩))
  have hZ1 := HZ1.out
  have hz2 := hb2.size
  have LB : Hid (LtB w w.heap.size w2.heap.size hi m 0 ((((w2.alloc (.cells #[.int .i64 hi] 3)).alloc (.cells #[.int .i64 0] 3)).alloc (.cells #[.slice a l.length cap] 22)).alloc (.cells (arrI f) 97))) := by
    have up : ∀ {b : Nat} {o : Obj}, b < W1.heap.size → W1.heap[b]? = some o → ((((w2.alloc (.cells #[.int .i64 hi] 3)).alloc (.cells #[.int .i64 0] 3)).alloc (.cells #[.slice a l.length cap] 22)).alloc (.cells (arrI f) 97)).heap[b]? = some o := fun hb ho => (heap_old _ _ (by simp <;> omega)).trans ((heap_old _ _ (by simp <;> omega)).trans ((heap_old _ _ (by simp <;> omega)).trans ((heap_old _ _ (by omega)).trans ((hb2.block _ hb).trans ho))))
    exact Lib.hid ⟨up (by omega) HS0.out, up (by omega) HS1.out, up (by omega) HS2.out, up (by omega) HX1.out, (heap_old _ _ (by simp <;> omega)).trans ((heap_old _ _ (by simp <;> omega)).trans ((heap_old _ _ (by simp <;> omega)).trans (heap_new _ _))), (heap_old _ _ (by simp <;> omega)).trans ((heap_old _ _ (by simp <;> omega)).trans (heap_second _ _ _)), ((((Below.step HB1.out hb2 (Nat.le_refl _)).alloc (by omega) _).alloc (by simp <;> omega) _).alloc (by simp <;> omega) _).alloc (by simp <;> omega) _⟩
  have LN : Hid (((((w2.alloc (.cells #[.int .i64 hi] 3)).alloc (.cells #[.int .i64 0] 3)).alloc (.cells #[.slice a l.length cap] 22)).alloc (.cells (arrI f) 97)).heap[w2.heap.size + 1 + 1]? = some (.cells #[.slice a l.length cap] 22 (0, 0))) := Lib.hid ((heap_old _ _ (by simp <;> omega)).trans (by have := heap_new ((w2.alloc (.cells #[.int .i64 hi] 3)).alloc (.cells #[.int .i64 0] 3)) (.cells #[.slice a l.length cap] 22); simpa using this))
  have LS : Hid (((((w2.alloc (.cells #[.int .i64 hi] 3)).alloc (.cells #[.int .i64 0] 3)).alloc (.cells #[.slice a l.length cap] 22)).alloc (.cells (arrI f) 97)).heap[w2.heap.size + 1 + 1 + 1]? = some (.cells (aM m) 97 (0, 0))) := Lib.hid (by rw [HF.out]; have := heap_new (((w2.alloc (.cells #[.int .i64 hi] 3)).alloc (.cells #[.int .i64 0] 3)).alloc (.cells #[.slice a l.length cap] 22)) (.cells (arrI f) 97); simpa using this)
  have LZ : Hid (((((w2.alloc (.cells #[.int .i64 hi] 3)).alloc (.cells #[.int .i64 0] 3)).alloc (.cells #[.slice a l.length cap] 22)).alloc (.cells (arrI f) 97)).heap.size = w2.heap.size + 4) := Lib.hid (by simp)
  clear hX2 harr
  generalize (((w2.alloc (.cells #[.int .i64 hi] 3)).alloc (.cells #[.int .i64 0] 3)).alloc (.cells #[.slice a l.length cap] 22)).alloc (.cells (arrI f) 97) = WL at LB LN LS LZ ⊢
  have hZL := LZ.out
  have LC := Lib.hid (HI.out.below (LB.out.2.2.2.2.2.2.mono hB))
  refine loop_steps (gf := 68) (lb := #[.pointer (some ⟨w2.heap.size + 1 + 1 + 1, 0, none⟩), .pointer (some ⟨w2.heap.size + 1 + 1, 0, none⟩)]) rfl (enters_of Try.func68 (by kernel_rfl) rfl)
    (jrounds1_steps (n' - 1) (fun b => b = w.heap.size + 1 + 1 + 1 ∨ b = w2.heap.size + 1) l m hi a cap B (w2.heap.size + 1 + 1 + 1) (w2.heap.size + 1 + 1) WL (by omega) (fun b h => by omega) (by omega) LC.out LN.out LS.out HR.out v3 hV HZM.out HMH.out hh0 (by omega))
    (fun _ => rfl) (fun h k => KpO.trans h k) (KpO.put (by omega))
    (fun k W => LtB w w.heap.size w2.heap.size hi (itJ l m k) k W)
    (fun k W => (TellJ l m hi [] false ((k : Int) * l.length) ∧ (k : Int) * l.length ≤ 100000000) ∧ LtX w w.heap.size k W)
    (LtB.low (f := itJ l m) (g := id) (by omega) (by omega) (by omega)) ((LowFrom.pure _).and (LtX.low (by omega) (by omega))) LB.out
    (fun k a' W => a' = { tmps := #[.slice a l.length cap, .slice am m.length cm, undef, undef, .pointer (some ⟨w.heap.size, 0, none⟩), .pointer (some ⟨w.heap.size + 1, 0, none⟩), .pointer (some ⟨w.heap.size + 1 + 1, 0, none⟩), .pointer (some ⟨w.heap.size + 1 + 1 + 1, 0, none⟩), .pointer (some ⟨w2.heap.size, 0, none⟩), .pointer (some ⟨w2.heap.size + 1, 0, none⟩), .slice (some ⟨w.heap.size + 1 + 1 + 1, 0, none⟩) 16 16, .slice am m.length cm, .int .i64 m.length, .slice a l.length cap, .slice am m.length cm, .int .i64 hi, .slice a l.length cap, .agg (arrI f), .func (.func 68) #[] #[.pointer (some ⟨w2.heap.size + 1 + 1 + 1, 0, none⟩), .pointer (some ⟨w2.heap.size + 1 + 1, 0, none⟩)], .agg (aM (itJ l m (k + 1))), undef, undef, undef, undef, undef, undef, undef, undef, undef, undef, undef, undef], defers := [] } ∧ LtB w w.heap.size w2.heap.size hi (itJ l m (k + 1)) k W)
    (fun a' => ((LowFrom.pure _).and (LtB.low (f := fun k => itJ l m (k + 1)) (g := id) (by omega) (by omega) (by omega))).own) ?assign ?body ?done ?stop
  case assign =>
    intro lp k W hpre hI
    obtain ⟨f1, hf1⟩ : ∃ f1 : Nat → Int, f1 = fun i => (itJ l m k).getD i 0 := ⟨_, rfl⟩
    have hX : W.heap[w.heap.size + 1 + 1 + 1]? = some (.cells (arrI f1) 97 (0, 0)) := by rw [hf1]; exact hI.2.2.2.1
    have HI2 := Lib.hid hI
    clear hI hf1
    simp only [List.zip_toArray, List.zip_cons_cons, List.zip_nil_right, List.foldl_toArray', List.foldl_cons, List.foldl_nil, List.setIfInBounds_toArray, List.set_cons_succ, List.set_cons_zero]
    gi_wp2_with (refine wpListIn_storeA (by rfl) _ _ rfl rfl rfl rfl hX ?_; intro W4 h4x h4g)
    exact ⟨keepsGrown h4g.out hX, KpO.grown h4g.out (.inl rfl) (by omega) (by have := HI2.out.2.2.2.2.2.2.size; omega), trivial, HI2.out.arr (Nat.le_refl _) (by omega) h4g.out h4x⟩
  case body =>
    rintro lp k _ W hWL hpre ⟨rfl, hI⟩
    have HN := Lib.hid (hI.cnt (Nat.le_refl _) (by omega))
    have hlk := hpre.looks HR.out HZM.out HMH.out hh0 (by omega) hV v3
    have hk2 := hlk.2
    have HTL : Hid (grB hi (itJ l m (k + 1)) = true → TellJ l m hi [] false (((k + 1 : Nat) : Int) * l.length) ∧ ((k + 1 : Nat) : Int) * l.length ≤ 100000000) := Lib.hid (fun h => ⟨hpre.great h, hlk.1⟩)
    have c5 := cell_at hI.2.2.2.2.2.1 0
    have f5 := free_of hI.2.2.2.2.2.1 0
    simp at c5
    have HKF : Hid (KeepsFrom WL.heap.size W (W.setCell ⟨w2.heap.size + 1, 0, none⟩ (.int .i64 ((k : Int) + 1)))) := Lib.hid ((KeepsOthers.setCell W _ _).from _)
    have HKP : Hid (KpO B (fun b => b = w.heap.size + 1 + 1 + 1 ∨ b = w2.heap.size + 1) W (W.setCell ⟨w2.heap.size + 1, 0, none⟩ (.int .i64 ((k : Int) + 1)))) := Lib.hid (KpO.set _ _ _ _ (.inr rfl) (by omega))
    clear hI hlk hpre
    gi_wp2
    generalize W.setCell ⟨w2.heap.size + 1, 0, none⟩ (.int .i64 ((k : Int) + 1)) = W7 at HN HKF HKP ⊢
    have c4 := cell_at HN.out.2.2.2.2.1 0
    simp at c4
    have hml : (itJ l m (k + 1)).length ≤ 16 := by rw [itJ_len]; exact hV
    have CX := Lib.hid (max_arr W7.drew (w.heap.size + 1 + 1 + 1) (itJ l m (k + 1)) HN.out.2.2.2.1 hml)
    have HMX := max_great hml hh0
    clear hml c5 f5
    generalize maxL (pad (itJ l m (k + 1))) = mx at CX HMX
    cases hg : grB hi (itJ l m (k + 1)) with
    | true =>
      rw [hg] at HMX
      gi_region_with (refine ⟨trivial, hdd _, ?_⟩; gi_at_call 63; refine (CallsIn.inRound lp (callsIn_wide.2 CX.out)).mono ?_; rintro e w3 ⟨rfl, rfl⟩)
      all_goals as_aux_lemma =>
        have c6 := cell_at HN.out.2.2.2.2.2.1 0
        simp at c6
        have d0 := cell_at HN.out.1 0
        have d1 := cell_at HN.out.2.1 0
        have d2 := cell_at HN.out.2.2.1 0
        simp at d0 d1 d2
        have g0 := free_of HN.out.1 0
        have g1 := free_of HN.out.2.1 0
        have g2 := free_of HN.out.2.2.1 0
        have n0 : ¬ w.heap.size = w2.heap.size + 1 := by omega
        have n1 : ¬ w.heap.size + 1 = w2.heap.size + 1 := by omega
        have n2 : ¬ w.heap.size + 1 + 1 = w2.heap.size + 1 := by omega
        have HST : Hid (LtX w w.heap.size (k + 1) (((W7.drew.drew.setCell ⟨w.heap.size, 0, none⟩ (.slice none 0 0)).setCell ⟨w.heap.size + 1, 0, none⟩ (.bool false)).setCell ⟨w.heap.size + 1 + 1, 0, none⟩ (.int .i64 ((k : Int) + 1)))) := Lib.hid (by have := HN.out.drew.drew.stop (Nat.le_refl _); simpa using this)
        have HK2 : Hid (KeepsFrom WL.heap.size W (((W7.drew.drew.setCell ⟨w.heap.size, 0, none⟩ (.slice none 0 0)).setCell ⟨w.heap.size + 1, 0, none⟩ (.bool false)).setCell ⟨w.heap.size + 1 + 1, 0, none⟩ (.int .i64 ((k : Int) + 1)))) := Lib.hid (keepsSet (keepsSet (keepsSet (keepsDrew (keepsDrew HKF.out)) _ _) _ _) _ _)
        have HT2 := Lib.hid (HTL.out hg)
        clear hg HMX
        gi_wp2
        gi_region
        all_goals gi_wp2
        all_goals exact ⟨HK2.out, HT2.out, HST.out⟩
    | false =>
      rw [hg] at HMX
      gi_region_with (refine ⟨trivial, hdd _, ?_⟩; gi_at_call 63; refine (CallsIn.inRound lp (callsIn_wide.2 CX.out)).mono ?_; rintro e w3 ⟨rfl, rfl⟩)
      all_goals as_aux_lemma =>
        have HG := Lib.hid hg
        clear hg HMX
        gi_wp2
        exact ⟨keepsDrew HKF.out, HKP.out.drew, HG.out, HN.out.drew⟩
  case done =>
    rintro D k W hD ⟨j, rfl, hgo, hng, hsame⟩ hI hK
    have hT := hgo.same hng hsame
    have hbd := (hgo.looks HR.out HZM.out HMH.out hh0 (by omega) hV v3).1
    have e1 : itJ l m (j + 1) = itJ l m j := hsame
    rw [e1] at hI
    have hml := itJ_len l m j
    generalize itJ l m j = mk at hT hI hml
    have HT := Lib.hid hT
    have HL := Lib.hid hml
    have HIW := Lib.hid hI
    have HKW := Lib.hid hK
    have hSW : w.heap.size + 1 + 1 + 1 + 1 ≤ W.heap.size := by have := lt_of_block hI.2.2.2.1; omega
    have CC : Hid (Calls Try.prog 44 #[.slice (some ⟨w.heap.size + 1 + 1 + 1, 0, none⟩) m.length 16] W.drew (CopyPost mk W.drew)) := Lib.hid (by
      have := intclone_any mk (some ⟨w.heap.size + 1 + 1 + 1, 0, none⟩) 16 (· < w.heap.size + 1 + 1 + 1 + 1) W.drew (by omega) (by omega) (low_in hI.2.2.2.1 (by omega) (Nat.lt_succ_self _)) (fun b hb => by have : W.drew.heap.size = W.heap.size := rfl; omega)
      rwa [hml] at this)
    have KEEP : Hid (∀ w3, Below W.drew.heap.size W.drew w3 → (w3.cell? ⟨w2.heap.size + 1, 0, none⟩ = some (.int .i64 ((j : Int) + 1)) ∧ w3.cell? ⟨w.heap.size, 0, none⟩ = some (.slice none 0 0) ∧ w3.cell? ⟨w.heap.size + 1, 0, none⟩ = some (.bool false) ∧ w3.cell? ⟨w.heap.size + 1 + 1, 0, none⟩ = some (.int .i64 0) ∧ w3.frozen? ⟨w.heap.size, 0, none⟩ = false ∧ w3.frozen? ⟨w.heap.size + 1, 0, none⟩ = false ∧ w3.frozen? ⟨w.heap.size + 1 + 1, 0, none⟩ = false)) := Lib.hid (fun w3 hb3 => by
      have h := HIW.out.drew.below hb3
      have c6 := cell_at h.2.2.2.2.2.1 0
      have d0 := cell_at h.1 0
      have d1 := cell_at h.2.1 0
      have d2 := cell_at h.2.2.1 0
      simp at c6 d0 d1 d2
      exact ⟨c6, d0, d1, d2, free_of h.1 0, free_of h.2.1 0, free_of h.2.2.1 0⟩)
    have c6 := cell_at hI.2.2.2.2.2.1 0
    simp at c6
    have n0 : ¬ w.heap.size = w2.heap.size + 1 := by omega
    have n1 : ¬ w.heap.size + 1 = w2.heap.size + 1 := by omega
    have n2 : ¬ w.heap.size + 1 + 1 = w2.heap.size + 1 := by omega
    have b0 : (0 : Int) ≤ (m.length : Int) := by omega
    have b1 : (m.length : Int) ≤ 16 := by omega
    clear hT hml hI hK e1 hsame hng hgo
    gi_wp2
    refine Code.wpIn_mono NoPanic.imp ?_
    gi_region_with (refine ⟨trivial, hdd _, ?_⟩; gi_at_call 44; refine (callsIn_wide.2 CC.out).mono ?_; rintro e w3 ⟨x, c, rfl, hown, hb3⟩; obtain ⟨x0, x1, x2, x3, x4, x5, x6⟩ := KEEP.out w3 hb3; have HOWN := Lib.hid hown; have HB3 := Lib.hid hb3; clear hown hb3)
    all_goals as_aux_lemma =>
      refine NoPanic.normal ?_
      have hWD : W.drew.heap.size = W.heap.size := rfl
      obtain ⟨W9, hW9, y0, y1, y2, hb9, hot⟩ := (HIW.out.drew.below HB3.out).fin (Nat.le_refl _) (.slice x mk.length c) ((j : Int) + 1)
      have hDW := (Array.getElem?_eq_some_iff.1 HKW.out).1
      have hK9 : W9.heap[D]? = some (.deferred (some [])) := (hot D (by omega) (by omega) (by omega)).trans ((HB3.out.block D (by omega)).trans HKW.out)
      have hne : ∀ b, b < WL.heap.size → b ≠ D := fun b hb => by omega
      have e0 := cell_at ((World.putObj_heap_other (w := W9) (r := D) (o := .deferred none) (hne w.heap.size (by omega))).trans y0) 0
      have e1 := cell_at ((World.putObj_heap_other (w := W9) (r := D) (o := .deferred none) (hne (w.heap.size + 1) (by omega))).trans y1) 0
      have e2 := cell_at ((World.putObj_heap_other (w := W9) (r := D) (o := .deferred none) (hne (w.heap.size + 1 + 1) (by omega))).trans y2) 0
      simp at e0 e1 e2
      have HO9 : Hid (IOwn (W9.putObj D (.deferred none)) w.heap.size (.slice x mk.length c) mk) := Lib.hid ((HOWN.out.low (by omega)).keep (fun g hg => by
        have h := HOWN.out.lt g hg
        exact (World.putObj_heap_other (by omega)).trans (hot g (by omega) (by omega) (by omega))))
      have HB9 : Hid (Below w.heap.size w (W9.putObj D (.deferred none))) := Lib.hid (hb9.trans (belowK_b (w := w) (Nat.le_refl _) W9 D _ _ (by omega) hK9 rfl rfl))
      rw [← hW9]
      clear y0 y1 y2 hb9 hot hW9 hWD
      gi_wp2
      refine ⟨by simp, .inl ⟨_, _, rfl, run_takeDeferred hK9, ?_⟩⟩
      refine ⟨.tuple #[.slice x mk.length c, .bool true, .int .i64 ((j : Int) + 1)], ?_, ⟨mk, true, j + 1, x, c, by simp, HT.out, hbd, HO9.out, HB9.out⟩⟩
      simp [results, Try.f50, go_sem, e0, e1, e2]
  case stop =>
    rintro D k W hD ⟨⟨ht, hbd⟩, h1, h2, h3, h4⟩ hK
    have HT := Lib.hid ht
    have hne : ∀ b, b < WL.heap.size → b ≠ D := fun b hb => by omega
    have e0 := cell_at ((World.putObj_heap_other (w := W) (r := D) (o := .deferred none) (hne w.heap.size (by omega))).trans h1) 0
    have e1 := cell_at ((World.putObj_heap_other (w := W) (r := D) (o := .deferred none) (hne (w.heap.size + 1) (by omega))).trans h2) 0
    have e2 := cell_at ((World.putObj_heap_other (w := W) (r := D) (o := .deferred none) (hne (w.heap.size + 1 + 1) (by omega))).trans h3) 0
    simp at e0 e1 e2
    have HB4 : Hid (Below w.heap.size w (W.putObj D (.deferred none))) := Lib.hid (h4.trans (belowK_b (w := w) (Nat.le_refl _) W D _ _ (by omega) hK rfl rfl))
    clear ht h1 h2 h3 h4
    gi_wp2
    refine ⟨by simp, .inl ⟨_, _, rfl, run_takeDeferred hK, ?_⟩⟩
    refine ⟨.tuple #[.slice none 0 0, .bool false, .int .i64 k], ?_, ⟨[], false, k, none, 0, rfl, HT.out, hbd, IOwn.nil _ _, HB4.out⟩⟩
    simp [results, Try.f50, go_sem, e0, e1, e2]
theorem jleast_any (m : List Int) (l : List Cl) (a am : Option Addr) (cap cm B : Nat) (w : World) (hr : hrB m.length l = true) (h0m : ∀ i, 0 ≤ m.getD i 0) (hmx : maxL m ≤ 1000) (hin : ClsIn w (· < B) l a cap) (him : IntsIn w (· < B) m am cm) (hB : B ≤ w.heap.size) :
    Calls Try.prog 50 #[.slice a l.length cap, .slice am m.length cm] w (LtPost l m (hiJ m l) w) :=
  (callsIn_wide (n := 3)).1 (jleast_in 3 m l a am cap cm B w hr h0m hmx hin him hB)
end Go.Proofs.Ytglggigndhbpcaa
