/- The contract of the law's comparison: the program's answers are the document's. Condition: the clauses and the model lie in memory; at most 1000 variables. -/
import Derived.Test.YtkjmhjeebamehaaJrsolve
import Derived.Test.YtkjmhjeebamehaaRowL
import Derived.Test.YtkjmhjeebamehaaHsmall
namespace Go.Proofs.Ytkjmhjeebamehaa
open Go.RowKit

theorem same_ints {w1 w2 W : World} {zs : List Int} {x y : Option Addr} {c d : Nat} (h : RowL zs x c w1) (hb : Below w1.heap.size w1 W) (k : RowL zs y d w2) (kb : Below w2.heap.size w2 W) : Calls Try.prog 17 #[.slice x zs.length c, .slice y zs.length d] W fun e w' => e = .returned (.bool true) ∧ Below W.heap.size W w' := by
  obtain ⟨h1, h2⟩ := h _ hb
  obtain ⟨k1, k2⟩ := k _ kb
  have := ints8_any zs zs x y c d W.heap.size W (h1.mono h2) (k1.mono k2) (Nat.le_refl _)
  rwa [show eqI zs zs = true from decide_eq_true rfl] at this

set_option maxRecDepth 100000 in
set_option maxHeartbeats 8000000 in
theorem same9_any (V : Nat) (hV : V ≤ 1000) (m : List Int) (l : List Cl) (a am : Option Addr) (cap cm B : Nat) (w : World) (hin : ClsIn w (· < B) l a cap) (him : IntsIn w (· < B) m am cm) (hB : B ≤ w.heap.size) :
    Calls Try.prog 9 #[.int .i64 V, .slice a l.length cap, .slice am m.length cm] w fun e w' => e = .returned (.bool true) ∧ Below w.heap.size w w' := by
  have CS := Lib.hid (fun (W : World) (hW : Below w.heap.size w W) => jSolve_any V hV l a cap B W (hin.below (hW.mono hB)) (Nat.le_trans hB hW.size))
  have RS := Lib.hid (fun (W : World) (hW : Below w.heap.size w W) => r9Solve_any V hV l a cap B W (hin.below (hW.mono hB)) (Nat.le_trans hB hW.size))
  have CF := Lib.hid (fun (W : World) (hW : Below w.heap.size w W) => jFrom_any m l a am cap cm B W (hin.below (hW.mono hB)) (him.below (hW.mono hB)) (Nat.le_trans hB hW.size))
  have RF := Lib.hid (fun (W : World) (hW : Below w.heap.size w W) => r9From_any m l a am cap cm B W (hin.below (hW.mono hB)) (him.below (hW.mono hB)) (Nat.le_trans hB hW.size))
  clear hin him
  go_enter Try.func9, Try.ntmps9
  go_wp2_with fail
  refine (CS.out w (Below.refl _ _)).mono ?_
  rintro e w1 ⟨z1, is, n, er, x1, c1, rfl, h1, o1, b1⟩
  have H1 := Lib.hid h1
  have R1 := Lib.hid (RowL.of o1)
  have B1 := Lib.hid b1
  clear h1 o1 b1
  go_wp2_with fail
  refine (RS.out w1 B1.out).mono ?_
  rintro e w2 ⟨z2, is2, n2, er2, x2, c2, rfl, h2, o2, b2⟩
  obtain ⟨rfl, rfl, rfl, rfl⟩ := H1.out.uniq h2
  have R2 := Lib.hid (RowL.of o2)
  have B2 := Lib.hid (Below.step B1.out b2 (Nat.le_refl _))
  have L12 := Lib.hid b2
  clear h2 o2 b2
  go_wp2_with fail
  refine (CF.out w2 B2.out).mono ?_
  rintro e w3 ⟨z3, is3, er3, x3, c3, rfl, h3, o3, b3⟩
  have H3 := Lib.hid h3
  have R3 := Lib.hid (RowL.of o3)
  have B3 := Lib.hid (Below.step B2.out b3 (Nat.le_refl _))
  have L23 := Lib.hid b3
  clear h3 o3 b3
  go_wp2_with fail
  refine (RF.out w3 B3.out).mono ?_
  rintro e w4 ⟨z4, is4, er4, x4, c4, rfl, h4, o4, b4⟩
  obtain ⟨rfl, rfl, rfl⟩ := H3.out.uniq h4
  have R4 := Lib.hid (RowL.of o4)
  have B4 := Lib.hid (Below.step B3.out b4 (Nat.le_refl _))
  have L34 := Lib.hid b4
  clear h4 o4 b4
  go_wp2_with fail
  refine (same_ints R1.out (Below.step (Below.step L12.out L23.out (Nat.le_refl _)) L34.out (Nat.le_refl _)) R2.out (Below.step L23.out L34.out (Nat.le_refl _))).mono ?_
  rintro e w5 ⟨rfl, b5⟩
  have B5 := Lib.hid (Below.step B4.out b5 (Nat.le_refl _))
  have L45 := Lib.hid b5
  clear b5
  go_wp2_with fail
  refine (same_ints R3.out (Below.step L34.out L45.out (Nat.le_refl _)) R4.out L45.out).mono ?_
  rintro e w6 ⟨rfl, b6⟩
  have B6 := Lib.hid (Below.step B5.out b6 (Nat.le_refl _))
  clear b6
  go_wp2_with fail
  go_ret
  exact ⟨rfl, B6.out⟩
end Go.Proofs.Ytkjmhjeebamehaa
