/- The contract of the law's own call at what any right program answers: it returns true. No condition. -/
import Derived.Test.YtkadbllabeobeaaHtold
namespace Go.Proofs.Ytkadbllabeobeaa
open Go.RowKit

def awL : List Cl := [([(0, 0)], (1, 2))]
theorem aw1 : bkR [0, 2] awL = [] ∧ bkE [0, 2] awL = 0 := by decide
theorem aw2 : bkR [1, 2] awL = [0] ∧ bkE [1, 2] awL = 0 := by decide
theorem aw3 : bkR [1] awL = [] ∧ bkE [1] awL = 1 := by decide
theorem aw4 : mostV 3 awL = 2 ∧ mostE 3 awL = 0 := by decide
theorem aw5 : namesR 3 awL = [0, 1] ∧ namesE 3 awL = 0 := by decide
theorem aw6 : hrB 2 awL = true ∧ hrB 1 awL = false := by decide
theorem awL_in (w : World) : ClsIn ((w.alloc (.cells #[.int .i64 0, .int .i64 0] 26)).alloc (.cells #[.slice (some ⟨w.heap.size, 0, none⟩) 1 1, .int .i64 1, .int .i64 2] 28)) (· < w.heap.size + 1 + 1) awL (some ⟨w.heap.size + 1, 0, none⟩) 1 := by
  have h0 := (heap_old (w.alloc (.cells #[.int .i64 0, .int .i64 0] 26)) (.cells #[.slice (some ⟨w.heap.size, 0, none⟩) 1 1, .int .i64 1, .int .i64 2] 28) (by simp)).trans (heap_new w _)
  have h1 := heap_second w (.cells #[.int .i64 0, .int .i64 0] 26) (.cells #[.slice (some ⟨w.heap.size, 0, none⟩) 1 1, .int .i64 1, .int .i64 2] 28)
  refine ⟨Nat.le_refl _, by unfold maxLen; omega, (fun h => by cases h), fun _ => ⟨w.heap.size + 1, 0, rfl, by omega, fun i hi => ?_⟩⟩
  have hi0 : i = 0 := by simp [awL] at hi; exact hi
  subst hi0
  refine ⟨⟨some ⟨w.heap.size, 0, none⟩, 1, cell_at h1 0, ⟨Nat.le_refl _, by unfold maxLen; omega, (fun h => by cases h), fun _ => ⟨w.heap.size, 0, rfl, by omega, fun j hj => ?_⟩⟩⟩, cell_at h1 1, cell_at h1 2⟩
  have hj0 : j = 0 := by simp [awL] at hj; exact hj
  subst hj0
  exact ⟨cell_at h0 0, cell_at h0 1⟩
theorem two_in (W : World) (x y : Int) : IntsIn (W.alloc (.cells #[.int .i64 x, .int .i64 y] 3)) (· < W.heap.size + 1) [x, y] (some ⟨W.heap.size, 0, none⟩) 2 :=
  .mk (Nat.le_refl _) (by omega) (by omega) (fun i hi => by
    have h := heap_new W (.cells #[.int .i64 x, .int .i64 y] 3)
    match i, hi with
    | 0, _ => exact cell_at h 0
    | 1, _ => exact cell_at h 1)
theorem one_in (W : World) (x : Int) : IntsIn (W.alloc (.cells #[.int .i64 x] 3)) (· < W.heap.size + 1) [x] (some ⟨W.heap.size, 0, none⟩) 1 :=
  .mk (Nat.le_refl _) (by omega) (by omega) (fun i hi => by
    have h := heap_new W (.cells #[.int .i64 x] 3)
    match i, hi with
    | 0, _ => exact cell_at h 0)

/-- The clause lies in a world, and in all later ones. -/
def Aw (w W : World) : Prop := ClsIn W (· < w.heap.size + 1 + 1) awL (some ⟨w.heap.size + 1, 0, none⟩) 1 ∧ w.heap.size + 1 + 1 ≤ W.heap.size ∧ Below w.heap.size w W
theorem Aw.next {w W W' : World} (h : Aw w W) (hb : Below W.heap.size W W') : Aw w W' := ⟨h.1.below (hb.mono h.2.1), Nat.le_trans h.2.1 hb.size, Below.step h.2.2 hb (Nat.le_refl _)⟩
theorem Aw.alloc {w W : World} (h : Aw w W) (o : Obj) : Aw w (W.alloc o) := h.next ((Below.refl _ _).alloc (Nat.le_refl _) o)
theorem aw_two {w W : World} (h : Aw w W) (x y : Int) {s : Nat} (hs : s = W.heap.size) : Calls Try.prog 12 #[.slice (some ⟨w.heap.size + 1, 0, none⟩) 1 1, .slice (some ⟨s, 0, none⟩) 2 2] (W.alloc (.cells #[.int .i64 x, .int .i64 y] 3)) (RowPost (bkR [x, y] awL) (bkE [x, y] awL) (W.alloc (.cells #[.int .i64 x, .int .i64 y] 3))) := by
  subst hs
  exact hBroken_any [x, y] awL _ _ 1 2 (W.heap.size + 1) _ ((h.alloc _).1.mono (by have := h.2.1; omega)) (two_in W x y) (by simp)
theorem aw_one {w W : World} (h : Aw w W) (x : Int) {s : Nat} (hs : s = W.heap.size) : Calls Try.prog 12 #[.slice (some ⟨w.heap.size + 1, 0, none⟩) 1 1, .slice (some ⟨s, 0, none⟩) 1 1] (W.alloc (.cells #[.int .i64 x] 3)) (RowPost (bkR [x] awL) (bkE [x] awL) (W.alloc (.cells #[.int .i64 x] 3))) := by
  subst hs
  exact hBroken_any [x] awL _ _ 1 1 (W.heap.size + 1) _ ((h.alloc _).1.mono (by have := h.2.1; omega)) (one_in W x) (by simp)
theorem aw_most {w W : World} (h : Aw w W) : Calls Try.prog 14 #[.int .i64 3, .slice (some ⟨w.heap.size + 1, 0, none⟩) 1 1] W fun e w' => e = .returned (.tuple #[.int .i64 2, .int .i64 0]) ∧ Below W.heap.size W w' := by
  have := hMost_any 3 awL _ 1 _ W h.1 h.2.1
  rwa [aw4.1, aw4.2] at this
theorem aw_names {w W : World} (h : Aw w W) : Calls Try.prog 15 #[.int .i64 3, .slice (some ⟨w.heap.size + 1, 0, none⟩) 1 1] W (RowPost [0, 1] 0 W) := by
  have := hNames_any 3 awL _ 1 _ W h.1 h.2.1
  rwa [aw5.1, aw5.2] at this
theorem aw_right2 {w W : World} (h : Aw w W) : Calls Try.prog 16 #[.int .i64 2, .slice (some ⟨w.heap.size + 1, 0, none⟩) 1 1] W fun e w' => e = .returned (.bool true) ∧ Below W.heap.size W w' := by
  have := hRight_any 2 awL _ 1 _ W h.1 h.2.1
  rwa [aw6.1] at this
theorem aw_right1 {w W : World} (h : Aw w W) : Calls Try.prog 16 #[.int .i64 1, .slice (some ⟨w.heap.size + 1, 0, none⟩) 1 1] W fun e w' => e = .returned (.bool false) ∧ Below W.heap.size W w' := by
  have := hRight_any 1 awL _ 1 _ W h.1 h.2.1
  rwa [aw6.2] at this
theorem aw_ints {w1 W : World} {x : Option Addr} {c : Nat} (h : RowL [0, 1] x c w1) (hb : Below w1.heap.size w1 W) : Calls Try.prog 13 #[.slice x 2 c, .slice (some ⟨W.heap.size, 0, none⟩) 2 2] (W.alloc (.cells #[.int .i64 0, .int .i64 1] 3)) fun e w' => e = .returned (.bool true) ∧ Below (W.alloc (.cells #[.int .i64 0, .int .i64 1] 3)).heap.size (W.alloc (.cells #[.int .i64 0, .int .i64 1] 3)) w' := by
  have hb2 : Below w1.heap.size w1 (W.alloc (.cells #[.int .i64 0, .int .i64 1] 3)) := hb.alloc hb.size _
  obtain ⟨h1, h2⟩ := h _ hb2
  have := ints8_any [0, 1] [0, 1] x _ c 2 (W.heap.size + 1) (W.alloc (.cells #[.int .i64 0, .int .i64 1] 3)) (h1.mono (by have := hb.size; omega)) (two_in W 0 1) (by simp)
  rwa [show eqI [0, 1] [0, 1] = true from decide_eq_true rfl] at this

set_option maxRecDepth 100000 in
set_option maxHeartbeats 8000000 in
theorem awake8_any (w : World) : Calls Try.prog 7 #[] w fun e w' => e = .returned (.bool true) ∧ Below w.heap.size w w' := by
  have A0 : Hid (Aw w ((w.alloc (.cells #[.int .i64 0, .int .i64 0] 26)).alloc (.cells #[.slice (some ⟨w.heap.size, 0, none⟩) 1 1, .int .i64 1, .int .i64 2] 28))) := Lib.hid ⟨awL_in w, by simp, ((Below.refl w.heap.size w).alloc (Nat.le_refl _) _).alloc (by simp) _⟩
  go_enter Try.func7, Try.ntmps7
  go_wp2_with fail
  have C1 := aw_two A0.out 0 2 (s := w.heap.size + 1 + 1) (by simp)
  rw [aw1.1, aw1.2] at C1
  refine C1.mono ?_
  clear C1
  rintro e w1 ⟨x1, c1, rfl, i1, b1⟩
  have A1 := Lib.hid ((A0.out.alloc _).next b1)
  clear i1 b1 A0
  go_wp2_with fail
  have C2 := aw_two A1.out 1 2 rfl
  rw [aw2.1, aw2.2] at C2
  refine C2.mono ?_
  clear C2
  rintro e w2 ⟨x2, c2, rfl, i2, b2⟩
  obtain ⟨g2, c2', hv2, _, hg2, hc2⟩ := i2.at (i := 0) (by decide)
  cases hv2
  have HC2 : Hid (w2.cell? ⟨g2, 0, none⟩ = some (.int .i64 0)) := Lib.hid hc2
  have A2 := Lib.hid ((A1.out.alloc _).next b2)
  clear i2 b2 A1 hc2
  go_wp2_with fail
  have C3 := aw_one A2.out 1 rfl
  rw [aw3.1, aw3.2] at C3
  refine C3.mono ?_
  clear C3
  rintro e w3 ⟨x3, c3, rfl, i3, b3⟩
  have A3 := Lib.hid ((A2.out.alloc _).next b3)
  have HC3 := Lib.hid ((bcell b3 g2 0 (by simp; omega)).trans (heap_cell_old _ _ hg2 HC2.out))
  have hg3 : g2 < w3.heap.size := by have := b3.size; simp at this; omega
  clear i3 b3 A2 HC2 hg2
  go_wp2_with fail
  refine (aw_most A3.out).mono ?_
  rintro e w4 ⟨rfl, b4⟩
  have A4 := Lib.hid (A3.out.next b4)
  have HC4 := Lib.hid ((bcell b4 g2 0 hg3).trans HC3.out)
  have hg4 : g2 < w4.heap.size := by have := b4.size; omega
  clear b4 A3 HC3 hg3
  go_wp2_with fail
  refine (aw_names A4.out).mono ?_
  rintro e w5 ⟨x5, c5, rfl, i5, b5⟩
  have A5 := Lib.hid (A4.out.next b5)
  have hc5 := (bcell b5 g2 0 hg4).trans HC4.out
  have I5 := Lib.hid (RowL.of i5)
  clear i5 b5 A4 HC4 hg4
  go_wp2_with fail
  refine (aw_ints I5.out (Below.refl _ _)).mono ?_
  rintro e w6 ⟨rfl, b6⟩
  have A6 := Lib.hid ((A5.out.alloc _).next b6)
  clear b6 A5 hc5
  go_wp2_with fail
  refine (aw_right2 A6.out).mono ?_
  rintro e w7 ⟨rfl, b7⟩
  have A7 := Lib.hid (A6.out.next b7)
  clear b7 A6
  go_wp2_with fail
  refine (aw_right1 A7.out).mono ?_
  rintro e w8 ⟨rfl, b8⟩
  have A8 := Lib.hid (A7.out.next b8)
  clear b8 A7
  go_wp2_with fail
  go_ret
  exact ⟨rfl, A8.out.2.2⟩
end Go.Proofs.Ytkadbllabeobeaa
