/- The contract of the law's own comparison of the program and the document: it returns true. Condition: the clauses and the values lie in memory. -/
import Derived.Test.YtkadbllabeobeaaHrbroken
import Derived.Test.YtkadbllabeobeaaHrmost
import Derived.Test.YtkadbllabeobeaaHrnames
import Derived.Test.YtkadbllabeobeaaRowL
namespace Go.Proofs.Ytkadbllabeobeaa
open Go.RowKit

theorem rows8_yes {zs : List Int} {x x' : Option Addr} {c c' : Nat} {w1 w2 W : World} (h1 : RowL zs x c w1) (h2 : RowL zs x' c' w2) (b1 : Below w1.heap.size w1 W) (b2 : Below w2.heap.size w2 W) :
    Calls Try.prog 13 #[.slice x zs.length c, .slice x' zs.length c'] W fun e w' => e = .returned (.bool true) ∧ Below W.heap.size W w' := by
  have := ints8_any zs zs x x' c c' W.heap.size W ((h1 W b1).1.weak (fun _ h => Nat.lt_of_lt_of_le h (h1 W b1).2)) ((h2 W b2).1.weak (fun _ h => Nat.lt_of_lt_of_le h (h2 W b2).2)) (Nat.le_refl _)
  rwa [show eqI zs zs = true from decide_eq_true rfl] at this

set_option maxRecDepth 100000 in
set_option maxHeartbeats 8000000 in
theorem told8_any (vars : Int) (m : List Int) (l : List Cl) (a am : Option Addr) (cap cm B : Nat) (w : World) (hin : ClsIn w (· < B) l a cap) (him : IntsIn w (· < B) m am cm) (hB : B ≤ w.heap.size) :
    Calls Try.prog 8 #[.int .i64 vars, .slice a l.length cap, .slice am m.length cm] w fun e w' => e = .returned (.bool true) ∧ Below w.heap.size w w' := by
  have C1 := Lib.hid (fun W (h : Below w.heap.size w W) => hBroken_any m l a am cap cm B W (hin.below (h.mono hB)) (him.below (h.mono hB)) (Nat.le_trans hB h.size))
  have C2 := Lib.hid (fun W (h : Below w.heap.size w W) => r8Broken_any m l a am cap cm B W (hin.below (h.mono hB)) (him.below (h.mono hB)) (Nat.le_trans hB h.size))
  have C3 := Lib.hid (fun W (h : Below w.heap.size w W) => hMost_any vars l a cap B W (hin.below (h.mono hB)) (Nat.le_trans hB h.size))
  have C4 := Lib.hid (fun W (h : Below w.heap.size w W) => r8Most_any vars l a cap B W (hin.below (h.mono hB)) (Nat.le_trans hB h.size))
  have C5 := Lib.hid (fun W (h : Below w.heap.size w W) => hNames_any vars l a cap B W (hin.below (h.mono hB)) (Nat.le_trans hB h.size))
  have C6 := Lib.hid (fun W (h : Below w.heap.size w W) => r8Names_any vars l a cap B W (hin.below (h.mono hB)) (Nat.le_trans hB h.size))
  have C7 := Lib.hid (fun W (h : Below w.heap.size w W) => hRight_any vars l a cap B W (hin.below (h.mono hB)) (Nat.le_trans hB h.size))
  have C8 := Lib.hid (fun W (h : Below w.heap.size w W) => r8Right_any vars l a cap B W (hin.below (h.mono hB)) (Nat.le_trans hB h.size))
  generalize bkR m l = R1 at C1 C2
  generalize bkE m l = E1 at C1 C2
  generalize mostV vars l = V2 at C3 C4
  generalize mostE vars l = E2 at C3 C4
  generalize namesR vars l = R3 at C5 C6
  generalize namesE vars l = E3 at C5 C6
  generalize hrB vars l = T at C7 C8
  have t1 : (E1 == E1) = true := by simp
  have t2 : (E2 == E2) = true := by simp
  have t3 : (E3 == E3) = true := by simp
  have t4 : (V2 == V2) = true := by simp
  have t5 : (T == T) = true := by simp
  clear hin him
  go_enter Try.func8, Try.ntmps8
  go_wp2_with fail
  refine (C1.out _ (Below.refl _ _)).mono ?_
  rintro e w1 ⟨x1, c1, rfl, i1, b1⟩
  have I1 := Lib.hid (RowL.of i1)
  have B1 := Lib.hid b1
  clear i1 b1 C1
  go_wp2_with fail
  refine (C2.out _ B1.out).mono ?_
  rintro e w2 ⟨x2, c2, rfl, i2, b2⟩
  have I2 := Lib.hid (RowL.of i2)
  have B2 := Lib.hid (Below.step B1.out b2 (Nat.le_refl _))
  have D2 := Lib.hid b2
  clear i2 b2 C2
  go_wp2_with fail
  refine (C3.out _ B2.out).mono ?_
  rintro e w3 ⟨rfl, b3⟩
  have B3 := Lib.hid (Below.step B2.out b3 (Nat.le_refl _))
  have D3 := Lib.hid b3
  clear b3 C3
  go_wp2_with fail
  refine (C4.out _ B3.out).mono ?_
  rintro e w4 ⟨rfl, b4⟩
  have B4 := Lib.hid (Below.step B3.out b4 (Nat.le_refl _))
  have D4 := Lib.hid b4
  clear b4 C4
  go_wp2_with fail
  refine (C5.out _ B4.out).mono ?_
  rintro e w5 ⟨x5, c5, rfl, i5, b5⟩
  have I5 := Lib.hid (RowL.of i5)
  have B5 := Lib.hid (Below.step B4.out b5 (Nat.le_refl _))
  have D5 := Lib.hid b5
  clear i5 b5 C5
  go_wp2_with fail
  refine (C6.out _ B5.out).mono ?_
  rintro e w6 ⟨x6, c6, rfl, i6, b6⟩
  have I6 := Lib.hid (RowL.of i6)
  have B6 := Lib.hid (Below.step B5.out b6 (Nat.le_refl _))
  have D6 := Lib.hid b6
  clear i6 b6 C6
  go_wp2_with fail
  refine (C7.out _ B6.out).mono ?_
  rintro e w7 ⟨rfl, b7⟩
  have B7 := Lib.hid (Below.step B6.out b7 (Nat.le_refl _))
  have D7 := Lib.hid b7
  clear b7 C7
  go_wp2_with fail
  refine (C8.out _ B7.out).mono ?_
  rintro e w8 ⟨rfl, b8⟩
  have B8 := Lib.hid (Below.step B7.out b8 (Nat.le_refl _))
  have D8 := Lib.hid b8
  have G2 := Lib.hid (Below.step D3.out (Below.step D4.out (Below.step D5.out (Below.step D6.out (Below.step D7.out D8.out (Nat.le_refl _)) (Nat.le_refl _)) (Nat.le_refl _)) (Nat.le_refl _)) (Nat.le_refl _))
  have G1 := Lib.hid (Below.step D2.out G2.out (Nat.le_refl _))
  have G6 := Lib.hid (Below.step D7.out D8.out (Nat.le_refl _))
  have G5 := Lib.hid (Below.step D6.out G6.out (Nat.le_refl _))
  clear b8 C8
  go_wp2_with fail
  refine (rows8_yes I1.out I2.out G1.out G2.out).mono ?_
  rintro e w9 ⟨rfl, b9⟩
  have B9 := Lib.hid (Below.step B8.out b9 (Nat.le_refl _))
  have D9 := Lib.hid b9
  clear b9
  go_wp2_with fail
  refine (rows8_yes I5.out I6.out (Below.step G5.out D9.out (Nat.le_refl _)) (Below.step G6.out D9.out (Nat.le_refl _))).mono ?_
  rintro e w10 ⟨rfl, b10⟩
  have B10 := Lib.hid (Below.step B9.out b10 (Nat.le_refl _))
  clear b10
  go_wp2_with fail
  go_ret
  exact ⟨rfl, B10.out⟩
end Go.Proofs.Ytkadbllabeobeaa
