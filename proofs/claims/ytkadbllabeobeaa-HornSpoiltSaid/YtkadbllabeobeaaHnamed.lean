/- An array of sixteen bools; the contract of the program's named: which variables the clauses name. Conditions: the clauses are right, and lie in memory. -/
import Derived.Test.YtkadbllabeobeaaHmost
namespace Go.Proofs.Ytkadbllabeobeaa
open Go.RowKit Go.Shelf
attribute [local go_sem] Oper.semAt_some

def arr16 (f : Nat → Bool) : Array Value := #[.bool (f 0), .bool (f 1), .bool (f 2), .bool (f 3), .bool (f 4), .bool (f 5), .bool (f 6), .bool (f 7), .bool (f 8), .bool (f 9), .bool (f 10), .bool (f 11), .bool (f 12), .bool (f 13), .bool (f 14), .bool (f 15)]
theorem arr16_at (f : Nat → Bool) : ∀ i, i < 16 → (arr16 f)[i]? = some (.bool (f i))
  | 0, _ => rfl
  | 1, _ => rfl
  | 2, _ => rfl
  | 3, _ => rfl
  | 4, _ => rfl
  | 5, _ => rfl
  | 6, _ => rfl
  | 7, _ => rfl
  | 8, _ => rfl
  | 9, _ => rfl
  | 10, _ => rfl
  | 11, _ => rfl
  | 12, _ => rfl
  | 13, _ => rfl
  | 14, _ => rfl
  | 15, _ => rfl
  | i + 16, h => by omega
theorem arr16_size (f : Nat → Bool) : (arr16 f).size = 16 := rfl
theorem arr16_set (f : Nat → Bool) (j : Nat) (b : Bool) (hj : j < 16) : (arr16 f).setIfInBounds j (.bool b) = arr16 (fun i => if i = j then b else f i) := by
  refine Array.ext (by simp [arr16_size]) fun i h1 h2 => ?_
  have hi : i < 16 := by simpa [arr16_size] using h2
  have e2 := arr16_at (fun i => if i = j then b else f i) i hi
  have e1 := arr16_at f i hi
  rw [Array.getElem?_eq_getElem h2] at e2
  injection e2 with e2
  rw [e2]
  by_cases e : i = j
  · subst e; simp
  · rw [Array.getElem_setIfInBounds_ne (by simpa using h1) (Ne.symm e)]
    rw [Array.getElem?_eq_getElem (by rw [arr16_size]; exact hi)] at e1
    injection e1 with e1
    rw [e1, if_neg e]
theorem arr16_congr {f g : Nat → Bool} (h : ∀ i, i < 16 → f i = g i) : arr16 f = arr16 g := by
  unfold arr16
  rw [h 0 (by decide), h 1 (by decide), h 2 (by decide), h 3 (by decide), h 4 (by decide), h 5 (by decide), h 6 (by decide), h 7 (by decide), h 8 (by decide), h 9 (by decide), h 10 (by decide), h 11 (by decide), h 12 (by decide), h 13 (by decide), h 14 (by decide), h 15 (by decide)]
def nms (l : List (Cl × At)) (i : Nat) : Bool := nmP (i : Int) l

theorem nms_snoc (l : List (Cl × At)) (x : Cl × At) {vars : Int} (hx : atB vars x.2 = true) : arr16 (fun i => if i = x.2.1.toNat then true else nms l i) = arr16 (nms (l ++ [x])) := by
  obtain ⟨p1, p2, _, _⟩ := atB_of hx
  refine arr16_congr fun i hi => ?_
  unfold nms
  rw [nmP_snoc]
  by_cases e : i = x.2.1.toNat
  · have e2 : (x.2.1 == (i : Int)) = true := beq_iff_eq.2 (by omega)
    rw [if_pos e, e2, Bool.or_true]
  · have e2 : (x.2.1 == (i : Int)) = false := beq_eq_false_iff_ne.2 (by omega)
    rw [if_neg e, e2, Bool.or_false]
/-- Sixteen cells set, one behind the other. -/
def setTo (W : World) (b : Nat) (f : Nat → Bool) : Nat → World
  | 0 => W
  | n + 1 => (setTo W b f n).setCell ⟨b, n, none⟩ (.bool (f n))
theorem setTo_grown (W : World) (b : Nat) (f : Nat → Bool) : ∀ n, W.grownBy (setTo W b f n) (some b)
  | 0 => Only.refl W b
  | n + 1 => Only.after (setTo_grown W b f n) (Only.set _ _ _ _)
theorem setTo_cells (W : World) (b : Nat) (f g : Nat → Bool) (t : TypeId) (h : W.heap[b]? = some (.cells (arr16 g) t (0, 0))) : ∀ n, n ≤ 16 → (setTo W b f n).heap[b]? = some (.cells (arr16 (fun i => if i < n then f i else g i)) t (0, 0))
  | 0, _ => by rw [arr16_congr (g := g) (fun i _ => by simp)]; exact h
  | n + 1, hn => by
    have ih := setTo_cells W b f g t h n (by omega)
    have h2 : (setTo W b f (n + 1)).heap[b]? = some (.cells ((arr16 (fun i => if i < n then f i else g i)).setIfInBounds n (.bool (f n))) t (0, 0)) := heap_setCell_same _ _ n _ _ _ ih
    rw [h2, arr16_set _ _ _ (by omega)]
    congr 2
    refine arr16_congr fun i _ => ?_
    by_cases e : i = n
    · subst e; simp
    · by_cases e2 : i < n
      · simp [e, e2, show i < n + 1 by omega]
      · simp [e, e2, show ¬ i < n + 1 by omega]
theorem setTo_all (W : World) (b : Nat) (f g : Nat → Bool) (t : TypeId) (h : W.heap[b]? = some (.cells (arr16 g) t (0, 0))) : (setTo W b f 16).heap[b]? = some (.cells (arr16 f) t (0, 0)) := by
  rw [setTo_cells W b f g t h 16 (Nat.le_refl _), arr16_congr (g := f) (fun i hi => by simp [hi])]
theorem cells_own {β : Type} (b : Nat) (f : β → Array Value) (t : TypeId) : Own (fun s W => W.heap[b]? = some (.cells (f s) t (0, 0))) := fun s X Y row hs hg hr =>
  (hg.block b (lt_of_block hs) (fun e => by obtain ⟨o, ho, hc⟩ := hr b e.symm; rw [hs] at ho; cases ho; cases hc)).trans hs

set_option maxRecDepth 100000 in
set_option maxHeartbeats 4000000 in
theorem hnamed_in (n' : Nat) (hn : 3 ≤ n') (vars : Int) (l : List Cl) (a : Option Addr) (cap B : Nat) (w : World) (hok : ∀ x ∈ pairs l, atB vars x.1.2 = true ∧ atB vars x.2 = true) (hv : vars ≤ 16) (hin : ClsIn w (· < B) l a cap) (hB : B ≤ w.heap.size) :
    CallsIn Fence.wide n' Try.prog 24 #[.slice a l.length cap] w fun e w' => e = .returned (.agg (arr16 fun i => nmB i l)) ∧ Below w.heap.size w w' := by
  have hdd : ∀ k : Nat, (Fence.wide.depth.isSome = true → 1 ≤ k) := fun k h => by cases h
  have HI := Lib.hid hin
  have bR : (((w.alloc (.cells (arr16 fun _ => false) 53)).alloc (.cells (arr16 fun _ => false) 53)).alloc (.cells #[.slice a l.length cap] 22)).heap[w.heap.size]? = some (.cells (arr16 fun _ => false) 53 (0, 0)) := (heap_old _ _ (by simp; omega)).trans ((heap_old _ _ (by simp)).trans (heap_new _ _))
  have bO : (((w.alloc (.cells (arr16 fun _ => false) 53)).alloc (.cells (arr16 fun _ => false) 53)).alloc (.cells #[.slice a l.length cap] 22)).heap[w.heap.size + 1]? = some (.cells (arr16 fun _ => false) 53 (0, 0)) := (heap_old _ _ (by simp)).trans (heap_second _ _ _)
  have bN := Boxed.new ((w.alloc (.cells (arr16 fun _ => false) 53)).alloc (.cells (arr16 fun _ => false) 53)) 22 (.slice a l.length cap)
  rw [World.size_alloc, World.size_alloc] at bN
  have hB2 : Below w.heap.size w (((w.alloc (.cells (arr16 fun _ => false) 53)).alloc (.cells (arr16 fun _ => false) 53)).alloc (.cells #[.slice a l.length cap] 22)) := (((Below.refl _ _).alloc (Nat.le_refl _) _).alloc (by simp) _).alloc (by simp; omega) _
  have hz : (((w.alloc (.cells (arr16 fun _ => false) 53)).alloc (.cells (arr16 fun _ => false) 53)).alloc (.cells #[.slice a l.length cap] 22)).heap.size = w.heap.size + 1 + 1 + 1 := by simp
  have harr : #[Value.bool false, Value.bool false, Value.bool false, Value.bool false, Value.bool false, Value.bool false, Value.bool false, Value.bool false, Value.bool false, Value.bool false, Value.bool false, Value.bool false, Value.bool false, Value.bool false, Value.bool false, Value.bool false] = arr16 fun _ => false := rfl
  clear hin
  refine callsIn_of_wp_marks Try.func24 rfl trivial ?_ rfl
  simp only [Try.ntmps24, List.size_toArray, List.length_cons, List.length_nil, Nat.reduceAdd, Nat.reduceSub, Array.replicate_succ, Array.replicate_zero, List.push_toArray, List.append_toArray, List.nil_append, List.cons_append]
  gi_wp2_with (refine ⟨trivial, hdd _, ?_⟩; gi_at_call 23; refine (hatoms_in _ _ _ _ _).mono ?_; rintro e w' ⟨rfl, rfl⟩)

  clear harr
  generalize ((w.alloc (.cells (arr16 fun _ => false) 53)).alloc (.cells (arr16 fun _ => false) 53)).alloc (.cells #[.slice a l.length cap] 22) = W2 at bR bO bN hB2 hz ⊢
  have hws : w.heap.size ≤ W2.heap.size := hB2.size
  refine wpIn_rangeFunc_ownH rfl (by omega) (gf := 29) (lb := #[.pointer (some ⟨w.heap.size + 1 + 1, 0, none⟩)]) rfl trivial (enters_of Try.func29 (by kernel_rfl) rfl)
    (hatoms1_stops (n' - 1) (fun b => b = w.heap.size + 1) l a cap B (w.heap.size + 1 + 1) W2 (Nat.le_trans hB hws) (fun b h => by omega) (HI.out.below (hB2.mono hB)) bN.cell (by omega)) (fun h k => KpO.trans h k) (KpO.put (Nat.le_trans hB hws)) (Below.refl _ _) (fun _ => rfl)
    (fun pre W => (W.heap[w.heap.size]? = some (.cells (arr16 fun _ => false) 53 (0, 0)) ∧ W.heap[w.heap.size + 1]? = some (.cells (arr16 (nms (elL pre))) 53 (0, 0))) ∧ Below w.heap.size w W)
    (fun _ _ _ => False)
    (OwnFrom.and (OwnFrom.and (Own.from (cells_own _ (fun _ => arr16 fun _ => false) _) _) (Own.from (cells_own _ (fun pre => arr16 (nms (elL pre))) _) _)) (ownFrom_below (Nat.le_refl _) hws))
    (fun _ _ _ _ _ hs _ _ => hs)
    ⟨⟨bR, bO⟩, hB2⟩
    (fun x a' W => ∃ Bx : Nat, W.heap[Bx]? = some (.cells #[.int .i64 x.1.1.2.1, .int .i64 x.1.1.2.2] 26 (0, 0)) ∧ a' = { tmps := #[.slice a l.length cap, undef, .pointer (some ⟨w.heap.size, 0, none⟩), .pointer (some ⟨w.heap.size + 1, 0, none⟩), undef, .pointer (some ⟨Bx, 0, none⟩), .slice a l.length cap, .func (.func 29) #[] #[.pointer (some ⟨w.heap.size + 1 + 1, 0, none⟩)], .agg #[.slice x.1.2.1 x.1.1.1.1.length x.1.2.2, .int .i64 x.1.1.1.2.1, .int .i64 x.1.1.1.2.2], .agg #[.int .i64 x.1.1.2.1, .int .i64 x.1.1.2.2], undef, undef, undef, undef], defers := [] })
    (fun x a' u W W' row hs hg hr => by
      obtain ⟨Bx, h1, h2⟩ := hs
      exact ⟨Bx, (hg.block Bx (lt_of_block h1) (fun e => by obtain ⟨_, o, ho, hc⟩ := hr Bx e.symm; rw [h1] at ho; cases ho; cases hc)).trans h1, h2⟩) ?assign ?body ?done ?stop
  case assign =>
    rintro lp pre ⟨⟨⟨⟨fr, tv, to⟩, xv, xo⟩, a', c'⟩, hm⟩ W K ⟨⟨i1, i2⟩, i4⟩ hK
    dsimp only [elV] at hK ⊢
    gi_wp2
    exact hK _ _ ((KeepsOthers.alloc _ _).from _) (KpO.alloc _ _ (Nat.le_trans hB i4.size) _) ⟨⟨(heap_old _ _ (lt_of_block i1)).trans i1, (heap_old _ _ (lt_of_block i2)).trans i2⟩, i4.alloc i4.size _⟩ ⟨W.heap.size, heap_new _ _, rfl⟩
  case body =>
    rintro lp pre ⟨⟨⟨⟨fr, tv, to⟩, xv, xo⟩, a', c'⟩, hm⟩ _ W hl _ ⟨⟨i1, i2⟩, i4⟩ ⟨Bx, hBx, rfl⟩ hlt2
    dsimp only at hBx ⊢
    have x0 := cell_at hBx 0
    simp at x0
    have hx := (hok _ hm).2
    obtain ⟨p1, p2, p3, p4⟩ := atB_of hx
    simp only at p1 p2 p3 p4
    have p5 : xv < 16 := by omega
    have fO := free_of i2 xv.toNat
    have cO := (cell_at i2 xv.toNat).trans (arr16_at _ xv.toNat (by omega))
    have HSN := Lib.hid (nms_snoc (elL pre) ((fr, (tv, to)), (xv, xo)) hx)
    have HST : Hid ((W.setCell ⟨w.heap.size + 1, xv.toNat, none⟩ (.bool true)).heap[w.heap.size + 1]? = some (.cells ((arr16 (nms (elL pre))).setIfInBounds xv.toNat (.bool true)) 53 (0, 0))) := Lib.hid (heap_setCell_same W _ xv.toNat _ _ _ i2)
    have HI1 := Lib.hid i1
    clear i1 i2 hx
    gi_wp2
    exact ⟨(KeepsOthers.setCell _ _ _).from _, KpO.set _ _ _ _ rfl (by omega), ⟨(Below.heap_setCell _ _ _ _ (show w.heap.size ≠ w.heap.size + 1 by omega)).trans HI1.out, by rw [elL_snoc, ← HSN.out, ← arr16_set _ _ _ (by omega)]; exact HST.out⟩, i4.setCell (p := ⟨w.heap.size + 1, xv.toNat, none⟩) (by simp) _⟩
  case done =>
    rintro D ys W hD hS ⟨⟨i1, i2⟩, i4⟩ hK
    have HF : Hid (arr16 (nms (elL ys)) = arr16 (fun i => nmB i l)) := Lib.hid (arr16_congr fun i _ => by unfold nms; rw [hS, nmP_pairs])
    have c0 := (cell_at i2 0).trans (arr16_at _ 0 (by decide))
    have f0 := free_of i1 0
    have g0 := (cell_at i1 0).trans (arr16_at _ 0 (by decide))
    have c1 := (cell_at i2 1).trans (arr16_at _ 1 (by decide))
    have f1 := free_of i1 1
    have g1 := (cell_at i1 1).trans (arr16_at _ 1 (by decide))
    have c2 := (cell_at i2 2).trans (arr16_at _ 2 (by decide))
    have f2 := free_of i1 2
    have g2 := (cell_at i1 2).trans (arr16_at _ 2 (by decide))
    have c3 := (cell_at i2 3).trans (arr16_at _ 3 (by decide))
    have f3 := free_of i1 3
    have g3 := (cell_at i1 3).trans (arr16_at _ 3 (by decide))
    have c4 := (cell_at i2 4).trans (arr16_at _ 4 (by decide))
    have f4 := free_of i1 4
    have g4 := (cell_at i1 4).trans (arr16_at _ 4 (by decide))
    have c5 := (cell_at i2 5).trans (arr16_at _ 5 (by decide))
    have f5 := free_of i1 5
    have g5 := (cell_at i1 5).trans (arr16_at _ 5 (by decide))
    have c6 := (cell_at i2 6).trans (arr16_at _ 6 (by decide))
    have f6 := free_of i1 6
    have g6 := (cell_at i1 6).trans (arr16_at _ 6 (by decide))
    have c7 := (cell_at i2 7).trans (arr16_at _ 7 (by decide))
    have f7 := free_of i1 7
    have g7 := (cell_at i1 7).trans (arr16_at _ 7 (by decide))
    have c8 := (cell_at i2 8).trans (arr16_at _ 8 (by decide))
    have f8 := free_of i1 8
    have g8 := (cell_at i1 8).trans (arr16_at _ 8 (by decide))
    have c9 := (cell_at i2 9).trans (arr16_at _ 9 (by decide))
    have f9 := free_of i1 9
    have g9 := (cell_at i1 9).trans (arr16_at _ 9 (by decide))
    have c10 := (cell_at i2 10).trans (arr16_at _ 10 (by decide))
    have f10 := free_of i1 10
    have g10 := (cell_at i1 10).trans (arr16_at _ 10 (by decide))
    have c11 := (cell_at i2 11).trans (arr16_at _ 11 (by decide))
    have f11 := free_of i1 11
    have g11 := (cell_at i1 11).trans (arr16_at _ 11 (by decide))
    have c12 := (cell_at i2 12).trans (arr16_at _ 12 (by decide))
    have f12 := free_of i1 12
    have g12 := (cell_at i1 12).trans (arr16_at _ 12 (by decide))
    have c13 := (cell_at i2 13).trans (arr16_at _ 13 (by decide))
    have f13 := free_of i1 13
    have g13 := (cell_at i1 13).trans (arr16_at _ 13 (by decide))
    have c14 := (cell_at i2 14).trans (arr16_at _ 14 (by decide))
    have f14 := free_of i1 14
    have g14 := (cell_at i1 14).trans (arr16_at _ 14 (by decide))
    have c15 := (cell_at i2 15).trans (arr16_at _ 15 (by decide))
    have f15 := free_of i1 15
    have g15 := (cell_at i1 15).trans (arr16_at _ 15 (by decide))
    have HI1 := Lib.hid i1
    clear hS i1 i2
    gi_wp2
    change bodyPostM _ _ _ _ _ _ _ (setTo W w.heap.size (nms (elL ys)) 16)
    have hgr := setTo_grown W w.heap.size (nms (elL ys)) 16
    have hc := setTo_all W w.heap.size (nms (elL ys)) _ _ HI1.out
    have hne : D ≠ w.heap.size := by omega
    have hK' : (setTo W w.heap.size (nms (elL ys)) 16).heap[D]? = some (.deferred (some [])) := (hgr.block D (Array.getElem?_eq_some_iff.1 hK).1 (fun e => hne (by injection e))).trans hK
    have hB3 : Below w.heap.size w (setTo W w.heap.size (nms (elL ys)) 16) := i4.grown hgr i4.size (fun k e => by injection e with e; omega)
    rw [HF.out] at hc
    clear HI1 hgr c0 f0 g0 c1 f1 g1 c2 f2 g2 c3 f3 g3 c4 f4 g4 c5 f5 g5 c6 f6 g6 c7 f7 g7 c8 f8 g8 c9 f9 g9 c10 f10 g10 c11 f11 g11 c12 f12 g12 c13 f13 g13 c14 f14 g14 c15 f15 g15
    generalize setTo W w.heap.size (nms (elL ys)) 16 = W5 at hK' hc hB3 ⊢
    refine ⟨by simp, .inl ⟨_, _, rfl, run_takeDeferred hK', ?_⟩⟩
    have hc2 := (World.putObj_heap_other (w := W5) (r := D) (o := .deferred none) (Ne.symm hne)).trans hc
    have e0 := (cell_at hc2 0).trans (arr16_at _ 0 (by decide))
    have e1 := (cell_at hc2 1).trans (arr16_at _ 1 (by decide))
    have e2 := (cell_at hc2 2).trans (arr16_at _ 2 (by decide))
    have e3 := (cell_at hc2 3).trans (arr16_at _ 3 (by decide))
    have e4 := (cell_at hc2 4).trans (arr16_at _ 4 (by decide))
    have e5 := (cell_at hc2 5).trans (arr16_at _ 5 (by decide))
    have e6 := (cell_at hc2 6).trans (arr16_at _ 6 (by decide))
    have e7 := (cell_at hc2 7).trans (arr16_at _ 7 (by decide))
    have e8 := (cell_at hc2 8).trans (arr16_at _ 8 (by decide))
    have e9 := (cell_at hc2 9).trans (arr16_at _ 9 (by decide))
    have e10 := (cell_at hc2 10).trans (arr16_at _ 10 (by decide))
    have e11 := (cell_at hc2 11).trans (arr16_at _ 11 (by decide))
    have e12 := (cell_at hc2 12).trans (arr16_at _ 12 (by decide))
    have e13 := (cell_at hc2 13).trans (arr16_at _ 13 (by decide))
    have e14 := (cell_at hc2 14).trans (arr16_at _ 14 (by decide))
    have e15 := (cell_at hc2 15).trans (arr16_at _ 15 (by decide))
    refine ⟨.agg (arr16 fun i => nmB i l), ?_, rfl, hB3.trans (belowK_b (w := w) (Nat.le_refl _) W5 D _ _ (by omega) hK' rfl rfl)⟩
    simp [results, Try.f24, go_sem, e0, e1, e2, e3, e4, e5, e6, e7, e8, e9, e10, e11, e12, e13, e14, e15]
    rfl
  case stop =>
    rintro D c pre W _ _ h _
    exact h.elim
theorem hnamed_any (vars : Int) (l : List Cl) (a : Option Addr) (cap B : Nat) (w : World) (hok : ∀ x ∈ pairs l, atB vars x.1.2 = true ∧ atB vars x.2 = true) (hv : vars ≤ 16) (hin : ClsIn w (· < B) l a cap) (hB : B ≤ w.heap.size) :
    Calls Try.prog 24 #[.slice a l.length cap] w fun e w' => e = .returned (.agg (arr16 fun i => nmB i l)) ∧ Below w.heap.size w w' :=
  (callsIn_wide (n := 3)).1 (hnamed_in 3 (Nat.le_refl _) vars l a cap B w hok hv hin hB)
end Go.Proofs.Ytkadbllabeobeaa
