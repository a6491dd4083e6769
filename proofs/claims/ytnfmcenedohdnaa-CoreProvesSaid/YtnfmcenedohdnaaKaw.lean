/- The contract of the law's own call at what any right program answers: it returns true. Condition: the contracts of the program's Core and Proves. -/
import Derived.Test.YtnfmcenedohdnaaKlaw
import Derived.Test.YtnfmcenedohdnaaHsm
namespace Go.Proofs.Ytnfmcenedohdnaa
open Go.RowKit

def awK : List Cl := [([(0, 0)], (1, 1)), ([(0, 0)], (2, 0)), ([(1, 0)], (0, 0))]
open Classical in
theorem posB_yes {vars : Int} {l : List Cl} {b : List Int} (hr : hrB vars l = true) (h : LeM (zerosJ vars.toNat) b) (hm : ModJ l b) : posB vars l = true := by
  unfold posB; rw [hr, Bool.true_and]; exact decide_eq_true (p := HasM vars.toNat l) ⟨b, h, hm⟩
open Classical in
theorem posB_no {vars : Int} {l : List Cl} (h : ∀ b, ¬ ModJ l b) : posB vars l = false := by
  unfold posB; rw [Bool.and_eq_false_iff]; exact .inr (decide_eq_false (p := HasM vars.toNat l) (by rintro ⟨b, _, hm⟩; exact h b hm))
theorem awK_mod (b : List Int) (h0 : brkB b ([(0, 0)], (1, 1)) = false) (h2 : brkB b ([(1, 0)], (0, 0)) = false) : False := by
  simp [brkB, askC, lowA, valA] at h0 h2
  omega
theorem awK_all : posB 3 awK = false := posB_no (vars := 3) fun b h => awK_mod b (h _ (by simp [awK])) (h _ (by simp [awK]))
theorem awK_two : posB 3 (awK.take 2) = true := posB_yes (vars := 3) (b := [0, 1, 0]) (by decide) (zerosJ_le rfl (by decide)) (by intro c hc; simp [awK] at hc; rcases hc with rfl | rfl <;> decide)
theorem awK_step0 : coreK 3 awK 1 = [0, 1, 2] := by
  show (if posB 3 (pickL awK (lessK 0 (coreK 3 awK 0))) = true then coreK 3 awK 0 else lessK 0 (coreK 3 awK 0)) = _
  rw [show coreK 3 awK 0 = [0, 1, 2] from rfl]
  rw [if_pos (posB_yes (vars := 3) (b := [0, 0, 0]) (by decide) (zerosJ_le rfl (by decide)) (by
    rw [show pickL awK (lessK 0 [0, 1, 2]) = [([(0, 0)], (2, 0)), ([(1, 0)], (0, 0))] by decide]
    intro c hc; simp at hc; rcases hc with rfl | rfl <;> decide))]
theorem awK_step1 : coreK 3 awK 2 = [0, 2] := by
  show (if posB 3 (pickL awK (lessK 1 (coreK 3 awK 1))) = true then coreK 3 awK 1 else lessK 1 (coreK 3 awK 1)) = _
  rw [awK_step0]
  rw [if_neg (by
    rw [posB_no (vars := 3) (fun b h => awK_mod b (h _ (by decide)) (h _ (by decide)))]; exact Bool.false_ne_true)]
  decide
theorem awK_step2 : coreK 3 awK 3 = [0, 2] := by
  show (if posB 3 (pickL awK (lessK 2 (coreK 3 awK 2))) = true then coreK 3 awK 2 else lessK 2 (coreK 3 awK 2)) = _
  rw [awK_step1]
  rw [if_pos (posB_yes (vars := 3) (b := [0, 1, 0]) (by decide) (zerosJ_le rfl (by decide)) (by
    rw [show pickL awK (lessK 2 [0, 2]) = [([(0, 0)], (1, 1))] by decide]
    intro c hc; simp at hc; subst hc; decide))]
theorem awK_core : coreR 3 awK = [0, 2] ∧ coreE 3 awK = 0 := by
  have hr : hrB 3 awK = true := by decide
  exact ⟨by unfold coreR; rw [if_pos hr, if_neg (by rw [awK_all]; exact Bool.false_ne_true)]; exact awK_step2, by unfold coreE; rw [if_pos hr]⟩
theorem awK_core2 : coreR 3 (awK.take 2) = [] ∧ coreE 3 (awK.take 2) = 0 := by
  have hr : hrB 3 (awK.take 2) = true := by decide
  exact ⟨by unfold coreR; rw [if_pos hr, if_pos awK_two], by unfold coreE; rw [if_pos hr]⟩
theorem awK_coreE : coreE 2 awK = 1 := by
  have hr : hrB 2 awK = false := by decide
  unfold coreE; rw [if_neg (by rw [hr]; exact Bool.false_ne_true)]
theorem awK_p1 : provB 3 awK [0, 2] = true := by
  have hr : hrB 3 awK = true := by decide
  unfold provB
  rw [hr, show decide (okP awK.length [0, 2]) = true by decide, posB_no (vars := 3) (fun b h => awK_mod b (h _ (by decide)) (h _ (by decide)))]; rfl
theorem awK_p2 : provB 3 awK [2, 0] = false := by
  unfold provB
  rw [show decide (okP awK.length [2, 0]) = false by decide]; simp
theorem awK_p3 : provB 3 awK [] = false := by
  unfold provB
  rw [posB_yes (vars := 3) (l := pickL awK []) (b := [0, 0, 0]) (by decide) (zerosJ_le rfl (by decide)) (by intro c hc; cases hc)]; simp

/-- The three clauses lie in a world, and in all later ones. -/
def AwK (w : World) (W : World) : Prop :=
  W.heap[w.heap.size]? = some (.cells #[.int .i64 0, .int .i64 0] 26 (0, 0)) ∧ W.heap[w.heap.size + 1]? = some (.cells #[.int .i64 0, .int .i64 0] 26 (0, 0)) ∧ W.heap[w.heap.size + 1 + 1]? = some (.cells #[.int .i64 1, .int .i64 0] 26 (0, 0)) ∧
    W.heap[w.heap.size + 1 + 1 + 1]? = some (.cells #[.slice (some ⟨w.heap.size, 0, none⟩) 1 1, .int .i64 1, .int .i64 1, .slice (some ⟨w.heap.size + 1, 0, none⟩) 1 1, .int .i64 2, .int .i64 0, .slice (some ⟨w.heap.size + 1 + 1, 0, none⟩) 1 1, .int .i64 0, .int .i64 0] 28 (0, 0)) ∧ Below w.heap.size w W
theorem AwK.next {w W W' : World} (h : AwK w W) (hb : Below W.heap.size W W') : AwK w W' := by
  obtain ⟨h1, h2, h3, h4, h5⟩ := h
  exact ⟨(hb.block _ (lt_of_block h1)).trans h1, (hb.block _ (lt_of_block h2)).trans h2, (hb.block _ (lt_of_block h3)).trans h3, (hb.block _ (lt_of_block h4)).trans h4, Below.step h5 hb (Nat.le_refl _)⟩
theorem AwK.alloc {w W : World} (h : AwK w W) (ob : Obj) : AwK w (W.alloc ob) := h.next ((Below.refl _ _).alloc (Nat.le_refl _) ob)
theorem AwK.cls {w W : World} (h : AwK w W) : ClsIn W (· < W.heap.size) awK (some ⟨w.heap.size + 1 + 1 + 1, 0, none⟩) 3 := by
  obtain ⟨h1, h2, h3, h4, _⟩ := h
  refine ⟨Nat.le_refl _, by unfold maxLen; omega, (fun h => by cases h), fun _ => ⟨w.heap.size + 1 + 1 + 1, 0, rfl, lt_of_block h4, fun i hi => ?_⟩⟩
  match i, hi with
  | 0, _ =>
    refine ⟨⟨some ⟨w.heap.size, 0, none⟩, 1, cell_at h4 0, ⟨Nat.le_refl _, by unfold maxLen; omega, (fun h => by cases h), fun _ => ⟨w.heap.size, 0, rfl, lt_of_block h1, fun j hj => ?_⟩⟩⟩, cell_at h4 1, cell_at h4 2⟩
    have hj0 : j = 0 := by simp [awK] at hj; exact hj
    subst hj0
    exact ⟨cell_at h1 0, cell_at h1 1⟩
  | 1, _ =>
    refine ⟨⟨some ⟨w.heap.size + 1, 0, none⟩, 1, cell_at h4 3, ⟨Nat.le_refl _, by unfold maxLen; omega, (fun h => by cases h), fun _ => ⟨w.heap.size + 1, 0, rfl, lt_of_block h2, fun j hj => ?_⟩⟩⟩, cell_at h4 4, cell_at h4 5⟩
    have hj0 : j = 0 := by simp [awK] at hj; exact hj
    subst hj0
    exact ⟨cell_at h2 0, cell_at h2 1⟩
  | 2, _ =>
    refine ⟨⟨some ⟨w.heap.size + 1 + 1, 0, none⟩, 1, cell_at h4 6, ⟨Nat.le_refl _, by unfold maxLen; omega, (fun h => by cases h), fun _ => ⟨w.heap.size + 1 + 1, 0, rfl, lt_of_block h3, fun j hj => ?_⟩⟩⟩, cell_at h4 7, cell_at h4 8⟩
    have hj0 : j = 0 := by simp [awK] at hj; exact hj
    subst hj0
    exact ⟨cell_at h3 0, cell_at h3 1⟩
theorem AwK.cls2 {w W : World} (h : AwK w W) : ClsIn W (· < W.heap.size) (awK.take 2) (some ⟨w.heap.size + 1 + 1 + 1, 0, none⟩) 3 := by
  obtain ⟨_, _, _, k4⟩ := h.cls
  obtain ⟨b, o, e, hb, hc⟩ := k4 (by decide)
  refine ⟨by decide, by unfold maxLen; omega, (fun h => by cases h), fun _ => ⟨b, o, e, hb, fun i hi => ?_⟩⟩
  have hi2 : i < 2 := hi
  have := hc i (by show i < 3; omega)
  match i, hi2 with
  | 0, _ => exact this
  | 1, _ => exact this
theorem k_two_in (W : World) (x y : Int) : IntsIn (W.alloc (.cells #[.int .i64 x, .int .i64 y] 3)) (· < W.heap.size + 1) [x, y] (some ⟨W.heap.size, 0, none⟩) 2 :=
  .mk (Nat.le_refl _) (by omega) (by omega) (fun i hi => by
    have h := heap_new W (.cells #[.int .i64 x, .int .i64 y] 3)
    match i, hi with
    | 0, _ => exact cell_at h 0
    | 1, _ => exact cell_at h 1)
theorem awK_ints {w W : World} {x : Option Addr} {c : Nat} (h : RowL [0, 2] x c w) (hb : Below w.heap.size w W) {s : Nat} (hs : s = W.heap.size) : Calls Try.prog 14 #[.slice x 2 c, .slice (some ⟨s, 0, none⟩) 2 2] (W.alloc (.cells #[.int .i64 0, .int .i64 2] 3)) fun e w' => e = .returned (.bool true) ∧ Below (W.alloc (.cells #[.int .i64 0, .int .i64 2] 3)).heap.size (W.alloc (.cells #[.int .i64 0, .int .i64 2] 3)) w' := by
  subst hs
  obtain ⟨h1, h2⟩ := h _ (hb.alloc hb.size (.cells #[.int .i64 0, .int .i64 2] 3))
  have := ints8_any [0, 2] [0, 2] x _ c 2 (W.alloc (.cells #[.int .i64 0, .int .i64 2] 3)).heap.size (W.alloc (.cells #[.int .i64 0, .int .i64 2] 3)) (h1.mono h2) ((k_two_in W 0 2).mono (by simp)) (Nat.le_refl _)
  rwa [show eqI [0, 2] [0, 2] = true from decide_eq_true rfl] at this
theorem awK_Core (hC : CoreC) {w W : World} (h : AwK w W) : Calls Try.prog 11 #[.int .i64 3, .slice (some ⟨w.heap.size + 1 + 1 + 1, 0, none⟩) 3 3] W (RowPost [0, 2] 0 W) := by
  have := hC 3 awK _ 3 W.heap.size W h.cls (Nat.le_refl _)
  rwa [awK_core.1, awK_core.2] at this
theorem awK_Core2 (hC : CoreC) {w W : World} (h : AwK w W) : Calls Try.prog 11 #[.int .i64 3, .slice (some ⟨w.heap.size + 1 + 1 + 1, 0, none⟩) 2 3] W (RowPost [] 0 W) := by
  have := hC 3 (awK.take 2) _ 3 W.heap.size W h.cls2 (Nat.le_refl _)
  rwa [awK_core2.1, awK_core2.2] at this
theorem awK_CoreE (hC : CoreC) {w W : World} (h : AwK w W) : Calls Try.prog 11 #[.int .i64 2, .slice (some ⟨w.heap.size + 1 + 1 + 1, 0, none⟩) 3 3] W fun e w' => ∃ x n c, e = .returned (.tuple #[.slice x n c, .int .i64 1]) ∧ Below W.heap.size W w' := by
  have := hC 2 awK _ 3 W.heap.size W h.cls (Nat.le_refl _)
  rw [awK_coreE] at this
  refine this.mono ?_
  rintro e w1 ⟨x, c, rfl, _, b⟩
  exact ⟨x, _, c, rfl, b⟩
theorem awK_Prov (hP : ProvC) {w W : World} (h : AwK w W) {ps : List Int} {x : Option Addr} {c : Nat} {r : Bool} (hr : provB 3 awK ps = r) (hl : ps.length ≤ 1000) (hi : IntsIn W (· < W.heap.size) ps x c) : Calls Try.prog 13 #[.int .i64 3, .slice (some ⟨w.heap.size + 1 + 1 + 1, 0, none⟩) 3 3, .slice x ps.length c] W fun e w' => e = .returned (.bool r) ∧ Below W.heap.size W w' := by
  have := hP 3 awK ps _ x 3 c W.heap.size W h.cls hi (Nat.le_refl _) hl
  rwa [hr] at this

set_option maxRecDepth 100000 in
set_option maxHeartbeats 8000000 in
theorem awake10_any (hC : CoreC) (hP : ProvC) (w : World) : Calls Try.prog 7 #[] w fun e w' => e = .returned (.bool true) ∧ Below w.heap.size w w' := by
  have A0 : Hid (AwK w ((((w.alloc (.cells #[.int .i64 0, .int .i64 0] 26)).alloc (.cells #[.int .i64 0, .int .i64 0] 26)).alloc (.cells #[.int .i64 1, .int .i64 0] 26)).alloc (.cells #[.slice (some ⟨w.heap.size, 0, none⟩) 1 1, .int .i64 1, .int .i64 1, .slice (some ⟨w.heap.size + 1, 0, none⟩) 1 1, .int .i64 2, .int .i64 0, .slice (some ⟨w.heap.size + 1 + 1, 0, none⟩) 1 1, .int .i64 0, .int .i64 0] 28))) := by
    refine Lib.hid ⟨?_, ?_, ?_, ?_, ?_⟩
    · exact (heap_old _ _ (by simp <;> omega)).trans ((heap_old _ _ (by simp <;> omega)).trans ((heap_old _ _ (by simp)).trans (heap_new _ _)))
    · exact (heap_old _ _ (by simp <;> omega)).trans ((heap_old _ _ (by simp)).trans (heap_second _ _ _))
    · have := heap_new ((w.alloc (.cells #[.int .i64 0, .int .i64 0] 26)).alloc (.cells #[.int .i64 0, .int .i64 0] 26)) (.cells #[.int .i64 1, .int .i64 0] 26)
      refine (heap_old _ _ (by simp)).trans ?_
      simpa using this
    · have := heap_new (((w.alloc (.cells #[.int .i64 0, .int .i64 0] 26)).alloc (.cells #[.int .i64 0, .int .i64 0] 26)).alloc (.cells #[.int .i64 1, .int .i64 0] 26)) (.cells #[.slice (some ⟨w.heap.size, 0, none⟩) 1 1, .int .i64 1, .int .i64 1, .slice (some ⟨w.heap.size + 1, 0, none⟩) 1 1, .int .i64 2, .int .i64 0, .slice (some ⟨w.heap.size + 1 + 1, 0, none⟩) 1 1, .int .i64 0, .int .i64 0] 28)
      simpa using this
    · exact ((((Below.refl w.heap.size w).alloc (Nat.le_refl _) _).alloc (by simp) _).alloc (by simp <;> omega) _).alloc (by simp <;> omega) _
  go_enter Try.func7, Try.ntmps7
  go_wp2_with fail
  refine (awK_Core hC A0.out).mono ?_
  rintro e w1 ⟨x1, c1, rfl, o1, b1⟩
  have A1 := Lib.hid (A0.out.next b1)
  have R1 := Lib.hid (RowL.of o1)
  clear o1 b1 A0
  go_wp2_with fail
  refine (awK_Core2 hC A1.out).mono ?_
  rintro e w2 ⟨x2, c2, rfl, _, b2⟩
  have A2 := Lib.hid (A1.out.next b2)
  have L2 := Lib.hid b2
  clear b2 A1
  go_wp2_with fail
  refine (awK_CoreE hC A2.out).mono ?_
  rintro e w3 ⟨x3, n3, c3, rfl, b3⟩
  have A3 := Lib.hid (A2.out.next b3)
  have L3 := Lib.hid (Below.step L2.out b3 (Nat.le_refl _))
  clear b3 A2 L2
  go_wp2_with fail
  refine (awK_ints R1.out L3.out rfl).mono ?_
  rintro e w4 ⟨rfl, b4⟩
  have A4 := Lib.hid ((A3.out.alloc _).next b4)
  have L4 := Lib.hid (Below.step (L3.out.alloc L3.out.size (.cells #[.int .i64 0, .int .i64 2] 3)) b4 (by simp))
  clear b4 A3 L3
  go_wp2_with fail
  refine (awK_Prov hP A4.out (ps := [0, 2]) awK_p1 (by decide) (((R1.out _ L4.out).1).mono (R1.out _ L4.out).2)).mono ?_
  rintro e w5 ⟨rfl, b5⟩
  have A5 := Lib.hid (A4.out.next b5)
  clear b5 A4 L4 R1
  go_wp2_with fail
  refine (awK_Prov hP (A5.out.alloc _) (ps := [2, 0]) awK_p2 (by decide) ((k_two_in w5 2 0).mono (by simp))).mono ?_
  rintro e w6 ⟨rfl, b6⟩
  have A6 := Lib.hid ((A5.out.alloc _).next b6)
  clear b6 A5
  go_wp2_with fail
  refine (awK_Prov hP A6.out (ps := []) awK_p3 (by decide) (.none _ _)).mono ?_
  rintro e w7 ⟨rfl, b7⟩
  have A7 := Lib.hid (A6.out.next b7)
  clear b7 A6
  go_wp2_with fail
  go_ret
  exact ⟨rfl, A7.out.2.2.2.2⟩
end Go.Proofs.Ytnfmcenedohdnaa
