/- What lies in memory as the program's own rounds go on, and the copy that they begin with. No condition but those that stand in each statement. -/
import Derived.Test.YtnfmcenedohdnaaJrounds
import Derived.Test.YtnfmcenedohdnaaJhigh
import Derived.Test.YtnfmcenedohdnaaJclone
import Derived.Laws.CopyRow
namespace Go.Proofs.Ytnfmcenedohdnaa
open Go.RowKit Go.Shelf
attribute [local go_sem] Oper.semAt_some

theorem pad_cells {m : List Int} (hm : m.length ≤ 16) : ((arrI fun _ => 0).toList.take 0 ++ m.map (Value.int .i64) ++ (arrI fun _ => 0).toList.drop (0 + m.length)).toArray = aM m := by
  refine Array.ext_getElem? fun i => ?_
  have hz : ∀ j, j < 16 → (arrI fun _ => 0).toList[j]? = some (.int .i64 0) := fun j hj => by rw [Array.getElem?_toList]; exact arrI_at _ j hj
  simp only [List.take_zero, List.nil_append, Nat.zero_add, List.getElem?_toArray]
  by_cases hi : i < 16
  · rw [aM_at m hi]
    by_cases h : i < m.length
    · rw [List.getElem?_append_left (by simpa using h), List.getElem?_map, List.getElem?_eq_getElem h, List.getD_eq_getElem?_getD, List.getElem?_eq_getElem h]; rfl
    · rw [List.getElem?_append_right (by simp; omega), List.getElem?_drop, List.length_map, show m.length + (i - m.length) = i by omega, hz i hi, getD_out (by omega)]
  · rw [List.getElem?_eq_none (by simp [arrI_size]; omega), Array.getElem?_eq_none (by show 16 ≤ i; omega)]
/-- Some numbers are copied into an array of noughts. -/
theorem copy_arr {w : World} {b : Nat} {P : Nat → Prop} {m : List Int} {am : Option Addr} {cm : Nat} (ty : TypeId) (hc : w.heap[b]? = some (.cells (arrI fun _ => 0) 66 (0, 0))) (him : IntsIn w P m am cm) (h1 : 1 ≤ m.length) (hm : m.length ≤ 16) :
    ∃ w', Hid ((Builtin.copy_ #[23, 23] ty #[.slice (some ⟨b, 0, none⟩) 16 16, .slice am m.length cm]).run Try.prog w = .ok (goInt m.length) w') ∧ Hid (w'.heap[b]? = some (.cells (aM m) 66 (0, 0))) ∧ Hid (w.grownBy w' (some b)) := by
  obtain ⟨i0, hi, hz0, hz1, hz2⟩ := info_parts infoInt
  obtain ⟨g, o, rfl, _, hat⟩ := him.some (by omega)
  have hs : ∀ j u, (m.map (Value.int .i64))[j]? = some u → w.cell? ((⟨g, o, none⟩ : Addr).add j) = some u := by
    intro j u hj
    have hjl : j < m.length := by have := (List.getElem?_eq_some_iff.1 hj).1; simpa using this
    rw [List.getElem?_map, List.getElem?_eq_getElem hjl] at hj
    have ha : (⟨g, o, none⟩ : Addr).add j = ⟨g, o + j, none⟩ := by unfold Addr.add; split <;> simp_all
    rw [ha, hat j hjl, ← hj, List.getD_eq_getElem?_getD, List.getElem?_eq_getElem hjl]
    rfl
  have hone : ∀ u ∈ m.map (Value.int .i64), u.oneCell' = true := by
    intro u hu
    obtain ⟨z, _, rfl⟩ := List.mem_map.1 hu
    rfl
  have := run_copy_row (P := Try.prog) w 23 23 ty 3 b 0 16 16 ⟨g, o, none⟩ m.length cm (arrI fun _ => 0) 66 (m.map (Value.int .i64)) Try.underlying23 (by rw [hi]; simp [hz1]) hc (by rw [List.length_map]; exact (Nat.min_eq_left hm).symm) hs (by simp [arrI_size]; omega) hone
  rw [List.length_map, pad_cells hm] at this
  exact ⟨_, Lib.hid this, Lib.hid (setRow_heap w b _ _ _ _ hc), Lib.hid (rowA_grown w b _)⟩
theorem wpListIn_copy_run {F : Fence} {n : Nat} {P : Program} {ops : Array Oper} {rest : List Oper} {o : Oper} {a : Act} {w w' : World} {Q : Exit → Act → World → Prop} {v y v' : Value} (hgd : o.guard = none) (s x : Operand) (t t' : TypeId)
    (ho : o.op = .call { callee := .builtin .copy, args := #[s, x], argTypes := #[t, t'] }) (hs : a.eval s = v) (hx : a.eval x = y) (hrun : (Builtin.copy_ #[t, t'] o.type #[v, y]).run P w = .ok v' w') (h : wpListIn F n P ops Q rest (a.put o.dst v') w') :
    wpListIn F n P ops Q (o :: rest) a w := by
  refine wpListIn_plain hgd fun K hK => ⟨?_, ?_⟩
  · simp [Oper.about, ho, resolve, Target.leads, Sem.run_pure]
  · rw [Oper.semAt_plain F _ _ (by rw [ho]; intro c hc; cases hc)]
    unfold execOp
    simp only [ho, resolve, invoke, builtin, Sem.run_bind, Sem.run_pure, Result.andThen_ok, List.map_toArray, List.map_cons, List.map_nil, hs, hx, hrun]
    exact hK _ _ h
/-- What the program's rounds answer. -/
def LtPost (l : List Cl) (m : List Int) (most : Int) (w : World) (e : Ending) (w' : World) : Prop :=
  ∃ (a : List Int) (is : Bool) (j : Nat) (x : Option Addr) (c : Nat), e = .returned (.tuple #[.slice x a.length c, .bool is, .int .i64 j]) ∧ TellJ l m most a is ((j : Int) * l.length) ∧ (j : Int) * l.length ≤ 100000000 ∧ IOwn w' w.heap.size (.slice x a.length c) a ∧ Below w.heap.size w w'
theorem LowFrom.and {B : Nat} {I J : Nat → World → Prop} (h : LowFrom B I) (k : LowFrom B J) : LowFrom B (fun i W => I i W ∧ J i W) := fun i W W' row hs hg hr => ⟨h i W W' row hs.1 hg hr, k i W W' row hs.2 hg hr⟩
theorem LowFrom.pure {B : Nat} (p : Nat → Prop) : LowFrom B (fun i _ => p i) := fun _ _ _ _ hs _ _ => hs
theorem LowFrom.block {B b : Nat} (hb : b < B) (o : Nat → Obj) : LowFrom B (fun i W => W.heap[b]? = some (o i)) := fun i W W' row hs hg hr => (hg.block b (Array.getElem?_eq_some_iff.1 hs).1 (fun e => by have := hr b e.symm; omega)).trans hs
theorem LowFrom.below {B : Nat} {w : World} (hb : w.heap.size ≤ B) : LowFrom B (fun _ W => Below w.heap.size w W) := fun i W W' row hs hg hr => hs.grown hg hs.size (fun k e => by have := hr k e; omega)
theorem KpO.grown {B b : Nat} {O : Nat → Prop} {W W' : World} (hg : W.grownBy W' (some b)) (hO : O b) (hb : B ≤ b) (hB : B ≤ W.heap.size) : KpO B O W W' :=
  ⟨hg.size, fun c hc => hg.block c (by omega) (fun e => by injection e; omega), fun c o h1 _ h3 => (hg.block c (Array.getElem?_eq_some_iff.1 h1).1 (fun e => h3 (by injection e with e; rw [e]; exact hO))).trans h1⟩
/-- The greatest number of an array that holds a model. -/
theorem max_arr (W : World) (b : Nat) (ma : List Int) (h : W.heap[b]? = some (.cells (aM ma) 66 (0, 0))) (hm : ma.length ≤ 16) : Calls Try.prog 39 #[.slice (some ⟨b, 0, none⟩) 16 16] W fun e w' => e = .returned (.int .i64 (maxL (pad ma))) ∧ W = w' := by
  have := maxInts_any (pad ma) (some ⟨b, 0, none⟩) 16 (b + 1) W (by rw [pad_len]; omega) (pad_in h hm (Nat.lt_succ_self b))
  rwa [pad_len] at this
theorem max_great {ma : List Int} {most : Int} (hm : ma.length ≤ 16) (h0 : 0 ≤ most) : decide (most < maxL (pad ma)) = grB most ma := by
  rw [maxL_gr (by rw [pad_len]; omega), gr_pad hm h0]
/-- What lies in memory as the rounds go on: the results' places (from S on), the array, the bound and the count (at H). -/
def LtB (w : World) (S H : Nat) (hi : Int) (ma : List Int) (k : Nat) (W : World) : Prop :=
  W.heap[S]? = some (.cells #[.slice none 0 0] 23 (0, 0)) ∧ W.heap[S + 1]? = some (.cells #[.bool false] 4 (0, 0)) ∧ W.heap[S + 1 + 1]? = some (.cells #[.int .i64 0] 3 (0, 0)) ∧ W.heap[S + 1 + 1 + 1]? = some (.cells (aM ma) 66 (0, 0)) ∧
    W.heap[H]? = some (.cells #[.int .i64 hi] 3 (0, 0)) ∧ W.heap[H + 1]? = some (.cells #[.int .i64 k] 3 (0, 0)) ∧ Below w.heap.size w W
theorem LtB.low {w : World} {S H B : Nat} {hi : Int} {f : Nat → List Int} {g : Nat → Nat} (h1 : S + 1 + 1 + 1 < B) (h2 : H + 1 < B) (h3 : w.heap.size ≤ B) : LowFrom B (fun k W => LtB w S H hi (f k) (g k) W) :=
  (LowFrom.block (by omega) _).and ((LowFrom.block (by omega) _).and ((LowFrom.block (by omega) _).and ((LowFrom.block h1 (fun k => .cells (aM (f k)) 66 (0, 0))).and ((LowFrom.block (by omega) _).and ((LowFrom.block h2 (fun k => .cells #[.int .i64 (g k)] 3 (0, 0))).and (LowFrom.below h3))))))
theorem keepsGrown {B b : Nat} {W W' : World} {cs : Array Value} {t : TypeId} {fr : Nat × Nat} (hg : W.grownBy W' (some b)) (hb : W.heap[b]? = some (.cells cs t fr)) : KeepsFrom B W W' :=
  (KeepsOthers.of_grownBy hg (fun j o e h => by injection e with e; subst e; rw [hb] at h; cases h; rfl)).from B
/-- The array is set. -/
theorem LtB.arr {w W W' : World} {S H : Nat} {hi : Int} {ma mb : List Int} {k : Nat} (h : LtB w S H hi ma k W) (hw : w.heap.size ≤ S) (hH : S + 1 + 1 + 1 < H) (hg : W.grownBy W' (some (S + 1 + 1 + 1))) (hx : W'.heap[S + 1 + 1 + 1]? = some (.cells (aM mb) 66 (0, 0))) : LtB w S H hi mb k W' := by
  obtain ⟨h1, h2, h3, h4, h5, h6, h7⟩ := h
  have keep : ∀ {b : Nat} {o : Obj}, b ≠ S + 1 + 1 + 1 → W.heap[b]? = some o → W'.heap[b]? = some o := fun hb ho => (hg.block _ (Array.getElem?_eq_some_iff.1 ho).1 (fun e => hb (by injection e))).trans ho
  exact ⟨keep (by omega) h1, keep (by omega) h2, keep (by omega) h3, hx, keep (by omega) h5, keep (by omega) h6, h7.grown hg h7.size (fun k e => by injection e with e; omega)⟩
/-- The count goes up. -/
theorem LtB.cnt {w W : World} {S H : Nat} {hi : Int} {ma : List Int} {k : Nat} (h : LtB w S H hi ma k W) (hw : w.heap.size ≤ S) (hH : S + 1 + 1 + 1 < H) : LtB w S H hi ma (k + 1) (W.setCell ⟨H + 1, 0, none⟩ (.int .i64 ((k : Int) + 1))) := by
  obtain ⟨h1, h2, h3, h4, h5, h6, h7⟩ := h
  have keep : ∀ {b : Nat} {o : Obj}, b ≠ H + 1 → W.heap[b]? = some o → (W.setCell ⟨H + 1, 0, none⟩ (.int .i64 ((k : Int) + 1))).heap[b]? = some o := fun hb ho => (Below.heap_setCell _ _ _ _ hb).trans ho
  refine ⟨keep (by omega) h1, keep (by omega) h2, keep (by omega) h3, keep (by omega) h4, keep (by omega) h5, ?_, h7.setCell (p := ⟨H + 1, 0, none⟩) (by show w.heap.size ≤ H + 1; omega) _⟩
  have := heap_setCell_same W (H + 1) 0 _ _ (.int .i64 ((k : Int) + 1)) h6
  rw [this]; simp
/-- What lies in memory where the rounds have been stopped. -/
def LtX (w : World) (S : Nat) (k : Nat) (W : World) : Prop :=
  W.heap[S]? = some (.cells #[.slice none 0 0] 23 (0, 0)) ∧ W.heap[S + 1]? = some (.cells #[.bool false] 4 (0, 0)) ∧ W.heap[S + 1 + 1]? = some (.cells #[.int .i64 k] 3 (0, 0)) ∧ Below w.heap.size w W
theorem LtX.low {w : World} {S B : Nat} (h1 : S + 1 + 1 + 1 < B) (h3 : w.heap.size ≤ B) : LowFrom B (fun k W => LtX w S k W) :=
  (LowFrom.block (by omega) _).and ((LowFrom.block (by omega) _).and ((LowFrom.block (by omega) (fun k => .cells #[.int .i64 k] 3 (0, 0))).and (LowFrom.below h3)))
theorem LtB.drew {w W : World} {S H : Nat} {hi : Int} {ma : List Int} {k : Nat} (h : LtB w S H hi ma k W) : LtB w S H hi ma k W.drew := ⟨h.1, h.2.1, h.2.2.1, h.2.2.2.1, h.2.2.2.2.1, h.2.2.2.2.2.1, h.2.2.2.2.2.2.drew⟩
/-- The rounds are stopped. -/
theorem LtB.stop {w W : World} {S H : Nat} {hi : Int} {ma : List Int} {k : Nat} (h : LtB w S H hi ma k W) (hw : w.heap.size ≤ S) : LtX w S k (((W.setCell ⟨S, 0, none⟩ (.slice none 0 0)).setCell ⟨S + 1, 0, none⟩ (.bool false)).setCell ⟨S + 1 + 1, 0, none⟩ (.int .i64 k)) := by
  obtain ⟨h1, h2, h3, _, _, _, h7⟩ := h
  refine ⟨(Below.heap_setCell _ _ _ _ (show S ≠ S + 1 + 1 by omega)).trans ((Below.heap_setCell _ _ _ _ (show S ≠ S + 1 by omega)).trans ?_), (Below.heap_setCell _ _ _ _ (show S + 1 ≠ S + 1 + 1 by omega)).trans ?_, ?_, ((h7.setCell (p := ⟨S, 0, none⟩) hw _).setCell (p := ⟨S + 1, 0, none⟩) (by show w.heap.size ≤ S + 1; omega) _).setCell (p := ⟨S + 1 + 1, 0, none⟩) (by show w.heap.size ≤ S + 1 + 1; omega) _⟩
  · rw [heap_setCell_same W S 0 _ _ (.slice none 0 0) h1]; simp
  · rw [heap_setCell_same _ (S + 1) 0 _ _ (.bool false) ((Below.heap_setCell _ _ _ _ (show S + 1 ≠ S by omega)).trans h2)]; simp
  · rw [heap_setCell_same _ (S + 1 + 1) 0 _ _ (.int .i64 k) ((Below.heap_setCell _ _ _ _ (show S + 1 + 1 ≠ S + 1 by omega)).trans ((Below.heap_setCell _ _ _ _ (show S + 1 + 1 ≠ S by omega)).trans h3))]; simp
theorem LtB.below {w W W' : World} {S H : Nat} {hi : Int} {ma : List Int} {k : Nat} (h : LtB w S H hi ma k W) (hb : Below W.heap.size W W') : LtB w S H hi ma k W' := by
  obtain ⟨h1, h2, h3, h4, h5, h6, h7⟩ := h
  have keep : ∀ {b : Nat} {o : Obj}, W.heap[b]? = some o → W'.heap[b]? = some o := fun ho => (hb.block _ (Array.getElem?_eq_some_iff.1 ho).1).trans ho
  exact ⟨keep h1, keep h2, keep h3, keep h4, keep h5, keep h6, Below.step h7 hb (Nat.le_refl _)⟩
/-- The results are set. -/
theorem LtB.fin {w W : World} {S H : Nat} {hi : Int} {ma : List Int} {k : Nat} (h : LtB w S H hi ma k W) (hw : w.heap.size ≤ S) (x : Value) (z : Int) :
    ∃ W', W' = (((W.setCell ⟨S, 0, none⟩ x).setCell ⟨S + 1, 0, none⟩ (.bool true)).setCell ⟨S + 1 + 1, 0, none⟩ (.int .i64 z)) ∧ W'.heap[S]? = some (.cells #[x] 23 (0, 0)) ∧ W'.heap[S + 1]? = some (.cells #[.bool true] 4 (0, 0)) ∧ W'.heap[S + 1 + 1]? = some (.cells #[.int .i64 z] 3 (0, 0)) ∧ Below w.heap.size w W' ∧ ∀ b, b ≠ S → b ≠ S + 1 → b ≠ S + 1 + 1 → W'.heap[b]? = W.heap[b]? := by
  obtain ⟨h1, h2, h3, _, _, _, h7⟩ := h
  refine ⟨_, rfl, (Below.heap_setCell _ _ _ _ (show S ≠ S + 1 + 1 by omega)).trans ((Below.heap_setCell _ _ _ _ (show S ≠ S + 1 by omega)).trans ?_), (Below.heap_setCell _ _ _ _ (show S + 1 ≠ S + 1 + 1 by omega)).trans ?_, ?_, ((h7.setCell (p := ⟨S, 0, none⟩) hw _).setCell (p := ⟨S + 1, 0, none⟩) (by show w.heap.size ≤ S + 1; omega) _).setCell (p := ⟨S + 1 + 1, 0, none⟩) (by show w.heap.size ≤ S + 1 + 1; omega) _, fun b n0 n1 n2 => (Below.heap_setCell _ _ _ _ n2).trans ((Below.heap_setCell _ _ _ _ n1).trans (Below.heap_setCell _ _ _ _ n0))⟩
  · rw [heap_setCell_same W S 0 _ _ x h1]; simp
  · rw [heap_setCell_same _ (S + 1) 0 _ _ (.bool true) ((Below.heap_setCell _ _ _ _ (show S + 1 ≠ S by omega)).trans h2)]; simp
  · rw [heap_setCell_same _ (S + 1 + 1) 0 _ _ (.int .i64 z) ((Below.heap_setCell _ _ _ _ (show S + 1 + 1 ≠ S + 1 by omega)).trans ((Below.heap_setCell _ _ _ _ (show S + 1 + 1 ≠ S by omega)).trans h3))]; simp
theorem keepsDrew {B : Nat} {W W' : World} (h : KeepsFrom B W W') : KeepsFrom B W W'.drew := h.trans ((KeepsOthers.drew W').from B)
theorem keepsSet {B : Nat} {W W' : World} (h : KeepsFrom B W W') (p : Addr) (v : Value) : KeepsFrom B W (W'.setCell p v) := h.trans ((KeepsOthers.setCell W' p v).from B)
theorem KpO.drew {B : Nat} {O : Nat → Prop} {W W' : World} (h : KpO B O W W') : KpO B O W W'.drew := h
/-- How many rounds there are, times the clauses. -/
theorem GoJ.looks {l : List Cl} {m : List Int} {most : Int} {j : Nat} (hr : RightJ m.length l) (h0 : ∀ i, 0 ≤ m.getD i 0) (hm : ∀ i, i < m.length → m.getD i 0 ≤ most) (h1 : 0 ≤ most) (h2 : most ≤ 100000) (hV : m.length ≤ 16) (hl : l.length ≤ 60) (hg : GoJ l m most j) : (((j + 1 : Nat) : Int)) * l.length ≤ 100000000 ∧ (j : Int) ≤ 1600000 := by
  have hb := (hg.bd hr h0 hm h1).1
  have h3 : (m.length : Int) * most ≤ 16 * 100000 := by
    have := Int.mul_le_mul_of_nonneg_right (show (m.length : Int) ≤ 16 by omega) h1
    omega
  have h4 := Int.mul_le_mul_of_nonneg_right (show ((j + 1 : Nat) : Int) ≤ 1600001 by omega) (show (0 : Int) ≤ l.length by omega)
  omega
end Go.Proofs.Ytnfmcenedohdnaa
