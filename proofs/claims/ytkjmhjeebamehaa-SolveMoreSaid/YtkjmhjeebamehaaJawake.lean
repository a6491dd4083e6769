/- The contract of the law's own call at what any right program answers: it returns true. No condition. -/
import Derived.Test.YtkjmhjeebamehaaJsolve
import Derived.Test.YtkjmhjeebamehaaRowL
import Derived.Test.YtkjmhjeebamehaaHsmall
namespace Go.Proofs.Ytkjmhjeebamehaa
open Go.RowKit

def awJ (o : Int) : List Cl := [([(0, 0)], (1, 1)), ([(1, o)], (0, 0))]
theorem awJ1 : SvIs 2 (awJ 1) [0, 1] true 4 0 := .inl ⟨by decide, ⟨2, ⟨by decide, .inr (by decide), fun i h1 h2 => by
  obtain rfl : i = 1 := by omega
  exact ⟨by decide, by decide⟩⟩, by decide, by decide, by decide⟩, rfl⟩
theorem awJ0 : SvIs 2 (awJ 0) [] false 4 0 := .inl ⟨by decide, ⟨2, ⟨by decide, .inl (by decide), fun i h1 h2 => by
  obtain rfl : i = 1 := by omega
  exact ⟨by decide, by decide⟩⟩, by decide, by decide, by decide⟩, rfl⟩
theorem awJg : SvIs 1 (awJ 0) [] false 0 1 := .inr ⟨by decide, rfl, rfl, rfl, rfl⟩
theorem awJf : FmIs (awJ 1) [0, 3] [2, 3] true 0 := .inl ⟨by decide, by decide, ⟨4, 2, ⟨by decide, .inr (by decide), fun i h1 h2 => by
  obtain rfl : i = 1 := by omega
  exact ⟨by decide, by decide⟩⟩, by decide, by decide, by decide⟩, rfl⟩
theorem j_two_in (W : World) (x y : Int) : IntsIn (W.alloc (.cells #[.int .i64 x, .int .i64 y] 3)) (· < W.heap.size + 1) [x, y] (some ⟨W.heap.size, 0, none⟩) 2 :=
  .mk (Nat.le_refl _) (by omega) (by omega) (fun i hi => by
    have h := heap_new W (.cells #[.int .i64 x, .int .i64 y] 3)
    match i, hi with
    | 0, _ => exact cell_at h 0
    | 1, _ => exact cell_at h 1)
/-- The two clauses lie in a world, and in all later ones. -/
def AwJ (w : World) (o : Int) (W : World) : Prop :=
  W.heap[w.heap.size]? = some (.cells #[.int .i64 0, .int .i64 0] 33 (0, 0)) ∧ W.heap[w.heap.size + 1]? = some (.cells #[.int .i64 1, .int .i64 o] 33 (0, 0)) ∧
    W.heap[w.heap.size + 1 + 1]? = some (.cells #[.slice (some ⟨w.heap.size, 0, none⟩) 1 1, .int .i64 1, .int .i64 1, .slice (some ⟨w.heap.size + 1, 0, none⟩) 1 1, .int .i64 0, .int .i64 0] 36 (0, 0)) ∧ Below w.heap.size w W
theorem AwJ.next {w W W' : World} {o : Int} (h : AwJ w o W) (hb : Below W.heap.size W W') : AwJ w o W' := by
  obtain ⟨h1, h2, h3, h4⟩ := h
  exact ⟨(hb.block _ (lt_of_block h1)).trans h1, (hb.block _ (lt_of_block h2)).trans h2, (hb.block _ (lt_of_block h3)).trans h3, Below.step h4 hb (Nat.le_refl _)⟩
theorem AwJ.alloc {w W : World} {o : Int} (h : AwJ w o W) (ob : Obj) : AwJ w o (W.alloc ob) := h.next ((Below.refl _ _).alloc (Nat.le_refl _) ob)
theorem AwJ.turn {w W : World} {o : Int} (h : AwJ w o W) (z : Int) : AwJ w z (W.setCell ⟨w.heap.size + 1, 1, none⟩ (.int .i64 z)) := by
  obtain ⟨h1, h2, h3, h4⟩ := h
  refine ⟨(Below.heap_setCell _ _ _ _ (show w.heap.size ≠ w.heap.size + 1 by omega)).trans h1, ?_, (Below.heap_setCell _ _ _ _ (show w.heap.size + 1 + 1 ≠ w.heap.size + 1 by omega)).trans h3, h4.setCell (p := ⟨w.heap.size + 1, 1, none⟩) (Nat.le_succ _) _⟩
  rw [heap_setCell_same W _ 1 _ _ (.int .i64 z) h2]; simp
theorem AwJ.cls {w W : World} {o : Int} (h : AwJ w o W) : ClsIn W (· < W.heap.size) (awJ o) (some ⟨w.heap.size + 1 + 1, 0, none⟩) 2 := by
  obtain ⟨h1, h2, h3, _⟩ := h
  refine ⟨Nat.le_refl _, by unfold maxLen; omega, (fun h => by cases h), fun _ => ⟨w.heap.size + 1 + 1, 0, rfl, lt_of_block h3, fun i hi => ?_⟩⟩
  match i, hi with
  | 0, _ =>
    refine ⟨⟨some ⟨w.heap.size, 0, none⟩, 1, cell_at h3 0, ⟨Nat.le_refl _, by unfold maxLen; omega, (fun h => by cases h), fun _ => ⟨w.heap.size, 0, rfl, lt_of_block h1, fun j hj => ?_⟩⟩⟩, cell_at h3 1, cell_at h3 2⟩
    have hj0 : j = 0 := by simp [awJ] at hj; exact hj
    subst hj0
    exact ⟨cell_at h1 0, cell_at h1 1⟩
  | 1, _ =>
    refine ⟨⟨some ⟨w.heap.size + 1, 0, none⟩, 1, cell_at h3 3, ⟨Nat.le_refl _, by unfold maxLen; omega, (fun h => by cases h), fun _ => ⟨w.heap.size + 1, 0, rfl, lt_of_block h2, fun j hj => ?_⟩⟩⟩, cell_at h3 4, cell_at h3 5⟩
    have hj0 : j = 0 := by simp [awJ] at hj; exact hj
    subst hj0
    exact ⟨cell_at h2 0, cell_at h2 1⟩
/-- Numbers that lie behind the clauses. -/
def HiJ (w : World) (zs : List Int) (x : Option Addr) (c : Nat) (W : World) : Prop := IntsIn W (fun b => w.heap.size + 1 + 1 < b ∧ b < W.heap.size) zs x c
theorem HiJ.of {w w' : World} {base : Nat} {zs : List Int} {x : Option Addr} {c : Nat} (h : IOwn w' base (.slice x zs.length c) zs) (hb : w.heap.size + 1 + 1 < base) : HiJ w zs x c w' := by
  obtain ⟨p1, p2, p3, p4⟩ := h.ints
  refine ⟨p1, p2, p3, fun hx => ?_⟩
  obtain ⟨b, o, rfl, _, hf⟩ := p4 hx
  obtain ⟨g, c', hv, hg, hlt, _⟩ := h.at (i := 0) hx
  cases hv
  exact ⟨b, 0, rfl, ⟨by omega, hlt⟩, hf⟩
theorem HiJ.next {w W W' : World} {zs : List Int} {x : Option Addr} {c : Nat} (h : HiJ w zs x c W) (hb : Below W.heap.size W W') : HiJ w zs x c W' := (h.keep (w' := W') (fun b hb2 => hb.block b hb2.2)).weak (fun _ hb2 => ⟨hb2.1, Nat.lt_of_lt_of_le hb2.2 hb.size⟩)
theorem HiJ.turn {w W : World} {zs : List Int} {x : Option Addr} {c : Nat} (h : HiJ w zs x c W) (v : Value) : HiJ w zs x c (W.setCell ⟨w.heap.size + 1, 1, none⟩ v) := (h.keep (w' := W.setCell ⟨w.heap.size + 1, 1, none⟩ v) (fun c hc => Below.heap_setCell _ _ _ _ (show c ≠ w.heap.size + 1 by omega))).weak (fun _ hb => ⟨hb.1, by simpa using hb.2⟩)
/-- What Solve and From tell of them. -/
theorem awJ_solve {w W : World} {o : Int} (h : AwJ w o W) (V : Nat) (hV : V ≤ 1000) {zs : List Int} {is : Bool} {n er : Int} (hs : SvIs V (awJ o) zs is n er) :
    Calls Try.prog 13 #[.int .i64 V, .slice (some ⟨w.heap.size + 1 + 1, 0, none⟩) 2 2] W fun e w' => ∃ x c, e = .returned (.tuple #[.slice x zs.length c, .bool is, .int .i64 n, .int .i64 er]) ∧ HiJ w zs x c w' ∧ Below W.heap.size W w' :=
  (jSolve_any V hV (awJ o) (some ⟨w.heap.size + 1 + 1, 0, none⟩) 2 W.heap.size W h.cls (Nat.le_refl _)).mono (by
    rintro e w' ⟨a, is', n', er', x, c, rfl, hk, ho, hb⟩
    obtain ⟨rfl, rfl, rfl, rfl⟩ := hk.uniq hs
    exact ⟨x, c, rfl, HiJ.of ho (lt_of_block h.2.2.1), hb⟩)
theorem awJ_from {w W : World} (h : AwJ w 1 W) {s : Nat} (hs : s = W.heap.size) : Calls Try.prog 16 #[.slice (some ⟨w.heap.size + 1 + 1, 0, none⟩) 2 2, .slice (some ⟨s, 0, none⟩) 2 2] (W.alloc (.cells #[.int .i64 0, .int .i64 3] 3)) fun e w' =>
    ∃ x c, e = .returned (.tuple #[.slice x 2 c, .bool true, .int .i64 0]) ∧ HiJ w [2, 3] x c w' ∧ Below (W.alloc (.cells #[.int .i64 0, .int .i64 3] 3)).heap.size (W.alloc (.cells #[.int .i64 0, .int .i64 3] 3)) w' := by
  subst hs
  refine (jFrom_any [0, 3] (awJ 1) (some ⟨w.heap.size + 1 + 1, 0, none⟩) (some ⟨W.heap.size, 0, none⟩) 2 2 (W.alloc (.cells #[.int .i64 0, .int .i64 3] 3)).heap.size _ (h.alloc _).cls ((j_two_in W 0 3).mono (by simp)) (Nat.le_refl _)).mono ?_
  rintro e w' ⟨a, is', er', x, c, rfl, hk, ho, hb⟩
  obtain ⟨rfl, rfl, rfl⟩ := hk.uniq awJf
  exact ⟨x, c, rfl, HiJ.of ho (lt_of_block (h.alloc _).2.2.1), hb⟩
theorem awJ_ints {w W : World} {p q : Int} {x : Option Addr} {c : Nat} (h : HiJ w [p, q] x c W) {s : Nat} (hs : s = W.heap.size) : Calls Try.prog 17 #[.slice x 2 c, .slice (some ⟨s, 0, none⟩) 2 2] (W.alloc (.cells #[.int .i64 p, .int .i64 q] 3)) fun e w' => e = .returned (.bool true) ∧ Below (W.alloc (.cells #[.int .i64 p, .int .i64 q] 3)).heap.size (W.alloc (.cells #[.int .i64 p, .int .i64 q] 3)) w' := by
  subst hs
  have h1 : IntsIn (W.alloc (.cells #[.int .i64 p, .int .i64 q] 3)) (· < W.heap.size + 1) [p, q] x c := (h.next ((Below.refl _ _).alloc (Nat.le_refl _) _)).weak (fun _ hb => by simpa using hb.2)
  have := ints8_any [p, q] [p, q] x _ c 2 (W.heap.size + 1) (W.alloc (.cells #[.int .i64 p, .int .i64 q] 3)) h1 (j_two_in W p q) (by simp)
  rwa [show eqI [p, q] [p, q] = true from decide_eq_true rfl] at this

set_option maxRecDepth 100000 in
set_option maxHeartbeats 8000000 in
theorem awake9_any (w : World) : Calls Try.prog 8 #[] w fun e w' => e = .returned (.bool true) ∧ Below w.heap.size w w' := by
  have A0 : Hid (AwJ w 1 (((w.alloc (.cells #[.int .i64 0, .int .i64 0] 33)).alloc (.cells #[.int .i64 1, .int .i64 1] 33)).alloc (.cells #[.slice (some ⟨w.heap.size, 0, none⟩) 1 1, .int .i64 1, .int .i64 1, .slice (some ⟨w.heap.size + 1, 0, none⟩) 1 1, .int .i64 0, .int .i64 0] 36))) :=
    Lib.hid ⟨(heap_old _ _ (by simp <;> omega)).trans ((heap_old _ _ (by simp)).trans (heap_new _ _)), (heap_old _ _ (by simp)).trans (heap_second _ _ _), by have := heap_new ((w.alloc (.cells #[.int .i64 0, .int .i64 0] 33)).alloc (.cells #[.int .i64 1, .int .i64 1] 33)) (.cells #[.slice (some ⟨w.heap.size, 0, none⟩) 1 1, .int .i64 1, .int .i64 1, .slice (some ⟨w.heap.size + 1, 0, none⟩) 1 1, .int .i64 0, .int .i64 0] 36); simpa using this, (((Below.refl w.heap.size w).alloc (Nat.le_refl _) _).alloc (by simp) _).alloc (by simp <;> omega) _⟩
  go_enter Try.func8, Try.ntmps8
  go_wp2_with fail
  refine (awJ_solve A0.out 2 (by omega) awJ1).mono ?_
  rintro e w1 ⟨x1, c1, rfl, i1, b1⟩
  have A1 := Lib.hid (A0.out.next b1)
  have I1 := Lib.hid i1
  have e3 := cell_at A1.out.2.2.1 3
  have d1 := cell_at A1.out.2.1 1
  simp at e3 d1
  have f1 := free_of A1.out.2.1 1
  clear i1 b1 A0
  go_wp2_with fail
  have A2 := Lib.hid (A1.out.turn 0)
  have I2 := Lib.hid (I1.out.turn (.int .i64 0))
  clear A1 I1 e3 d1 f1
  generalize w1.setCell ⟨w.heap.size + 1, 1, none⟩ (.int .i64 0) = W2 at A2 I2 ⊢
  refine (awJ_solve A2.out 2 (by omega) awJ0).mono ?_
  rintro e w3 ⟨x3, c3, rfl, _, b3⟩
  have A3 := Lib.hid (A2.out.next b3)
  have I3 := Lib.hid (I2.out.next b3)
  clear b3 A2 I2
  go_wp2_with fail
  refine (awJ_solve A3.out 1 (by omega) awJg).mono ?_
  rintro e w4 ⟨x4, c4, rfl, _, b4⟩
  have A4 := Lib.hid (A3.out.next b4)
  have I4 := Lib.hid (I3.out.next b4)
  have e3 := cell_at A4.out.2.2.1 3
  have d1 := cell_at A4.out.2.1 1
  simp at e3 d1
  have f1 := free_of A4.out.2.1 1
  have n1 : ¬ w4.heap.size = w.heap.size + 1 := by have := lt_of_block A4.out.2.1; omega
  clear b4 A3 I3
  go_wp2_with fail
  have A5 := Lib.hid (A4.out.turn 1)
  have I5 := Lib.hid (I4.out.turn (.int .i64 1))
  clear A4 I4 e3 d1 f1 n1
  have hz : w4.heap.size = (w4.setCell ⟨w.heap.size + 1, 1, none⟩ (.int .i64 1)).heap.size := by simp
  rw [hz]
  generalize w4.setCell ⟨w.heap.size + 1, 1, none⟩ (.int .i64 1) = W5 at A5 I5 ⊢
  refine (awJ_from A5.out rfl).mono ?_
  rintro e w6 ⟨x6, c6, rfl, i6, b6⟩
  have A6 := Lib.hid ((A5.out.alloc _).next b6)
  have I6 := Lib.hid ((I5.out.next ((Below.refl _ _).alloc (Nat.le_refl _) _)).next b6)
  have J6 := Lib.hid i6
  clear i6 b6 A5 I5 hz
  go_wp2_with fail
  refine (awJ_ints I6.out rfl).mono ?_
  rintro e w7 ⟨rfl, b7⟩
  have A7 := Lib.hid ((A6.out.alloc _).next b7)
  have J7 := Lib.hid ((J6.out.next ((Below.refl _ _).alloc (Nat.le_refl _) _)).next b7)
  clear b7 A6 I6 J6
  go_wp2_with fail
  refine (awJ_ints J7.out rfl).mono ?_
  rintro e w8 ⟨rfl, b8⟩
  have A8 := Lib.hid ((A7.out.alloc _).next b8)
  clear b8 A7 J7
  go_wp2_with fail
  go_ret
  exact ⟨rfl, A8.out.2.2.2⟩
end Go.Proofs.Ytkjmhjeebamehaa
