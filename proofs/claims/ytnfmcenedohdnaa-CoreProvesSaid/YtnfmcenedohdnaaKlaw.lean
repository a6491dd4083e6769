/- The contracts of the law's own comparison and of its call at what any right program answers, out of the contracts of the program's Core and Proves. Condition: these contracts; for the comparison, the clauses and the places lie in memory, at most 1000 places. -/
import Derived.Test.YtnfmcenedohdnaaKrprov
import Derived.Test.YtnfmcenedohdnaaKmath
import Derived.Test.YtnfmcenedohdnaaRowL
namespace Go.Proofs.Ytnfmcenedohdnaa
open Go.RowKit

/-- The contract of the program's Core. -/
def CoreC : Prop := ∀ (vars : Int) (l : List Cl) (a : Option Addr) (cap B : Nat) (w : World), ClsIn w (· < B) l a cap → B ≤ w.heap.size → Calls Try.prog 11 #[.int .i64 vars, .slice a l.length cap] w (RowPost (coreR vars l) (coreE vars l) w)
/-- The contract of the program's Proves. -/
def ProvC : Prop := ∀ (vars : Int) (l : List Cl) (ps : List Int) (a ap : Option Addr) (cap cp B : Nat) (w : World), ClsIn w (· < B) l a cap → IntsIn w (· < B) ps ap cp → B ≤ w.heap.size → ps.length ≤ 1000 →
  Calls Try.prog 13 #[.int .i64 vars, .slice a l.length cap, .slice ap ps.length cp] w fun e w' => e = .returned (.bool (provB vars l ps)) ∧ Below w.heap.size w w'
theorem ints_same {w1 w2 W : World} {zs : List Int} {x y : Option Addr} {c d : Nat} (h : RowL zs x c w1) (hb : Below w1.heap.size w1 W) (k : RowL zs y d w2) (kb : Below w2.heap.size w2 W) : Calls Try.prog 14 #[.slice x zs.length c, .slice y zs.length d] W fun e w' => e = .returned (.bool true) ∧ Below W.heap.size W w' := by
  obtain ⟨h1, h2⟩ := h _ hb
  obtain ⟨k1, k2⟩ := k _ kb
  have := ints8_any zs zs x y c d W.heap.size W (h1.mono h2) (k1.mono k2) (Nat.le_refl _)
  rwa [show eqI zs zs = true from decide_eq_true rfl] at this

set_option maxRecDepth 100000 in
set_option maxHeartbeats 8000000 in
theorem same10_any (hC : CoreC) (hP : ProvC) (vars : Int) (l : List Cl) (ps : List Int) (a ap : Option Addr) (cap cp B : Nat) (w : World) (hin : ClsIn w (· < B) l a cap) (hip : IntsIn w (· < B) ps ap cp) (hB : B ≤ w.heap.size) (hpl : ps.length ≤ 1000) :
    Calls Try.prog 8 #[.int .i64 vars, .slice a l.length cap, .slice ap ps.length cp] w fun e w' => e = .returned (.bool true) ∧ Below w.heap.size w w' := by
  have CS := Lib.hid (fun (W : World) (hW : Below w.heap.size w W) => hC vars l a cap B W (hin.below (hW.mono hB)) (Nat.le_trans hB hW.size))
  have RS := Lib.hid (fun (W : World) (hW : Below w.heap.size w W) => r10Core_any vars l a cap B W (hin.below (hW.mono hB)) (Nat.le_trans hB hW.size))
  have CF := Lib.hid (fun (W : World) (hW : Below w.heap.size w W) => hP vars l ps a ap cap cp B W (hin.below (hW.mono hB)) (hip.below (hW.mono hB)) (Nat.le_trans hB hW.size) hpl)
  have RF := Lib.hid (fun (W : World) (hW : Below w.heap.size w W) => r10Proves_any vars l ps a ap cap cp B W (hin.below (hW.mono hB)) (hip.below (hW.mono hB)) (Nat.le_trans hB hW.size) hpl)
  have HL : Hid (hrB vars l = true → l.length ≤ 60) := Lib.hid (fun h => (hrB_of h).2.2.1)
  have HRL : Hid ((coreR vars l).length ≤ 1000) := Lib.hid (by
    cases hr : hrB vars l with
    | true => have := coreR_len vars l; have := HL.out hr; omega
    | false => have : coreR vars l = [] := by simp [coreR, hr]
               rw [this]; simp)
  have CG := Lib.hid (fun (W W2 : World) (x : Option Addr) (c : Nat) (hW : Below w.heap.size w W) (hr : RowL (coreR vars l) x c W2) (h2 : Below W2.heap.size W2 W) => hP vars l (coreR vars l) a x cap c W.heap.size W ((hin.below (hW.mono hB)).mono (Nat.le_trans hB hW.size)) ((hr W h2).1.mono (hr W h2).2) (Nat.le_refl _) HRL.out)
  have RG := Lib.hid (fun (W W2 : World) (x : Option Addr) (c : Nat) (hW : Below w.heap.size w W) (hr : RowL (coreR vars l) x c W2) (h2 : Below W2.heap.size W2 W) => r10Proves_any vars l (coreR vars l) a x cap c W.heap.size W ((hin.below (hW.mono hB)).mono (Nat.le_trans hB hW.size)) ((hr W h2).1.mono (hr W h2).2) (Nat.le_refl _) HRL.out)
  generalize provB vars l ps = V1 at CF RF
  generalize provB vars l (coreR vars l) = V2 at CG RG
  generalize coreR vars l = R at CS RS CG RG HRL
  generalize coreE vars l = E at CS RS
  clear hin hip HL HRL hC hP
  go_enter Try.func8, Try.ntmps8
  go_wp2_with fail
  refine (CS.out w (Below.refl _ _)).mono ?_
  rintro e w1 ⟨x1, c1, rfl, o1, b1⟩
  have R1 := Lib.hid (RowL.of o1)
  have B1 := Lib.hid b1
  clear o1 b1
  go_wp2_with fail
  refine (RS.out w1 B1.out).mono ?_
  rintro e w2 ⟨x2, c2, rfl, o2, b2⟩
  have R2 := Lib.hid (RowL.of o2)
  have B2 := Lib.hid (Below.step B1.out b2 (Nat.le_refl _))
  have L12 := Lib.hid b2
  clear o2 b2
  go_wp2_with fail
  refine (ints_same R1.out L12.out R2.out (Below.refl _ _)).mono ?_
  rintro e w3 ⟨rfl, b3⟩
  have B3 := Lib.hid (Below.step B2.out b3 (Nat.le_refl _))
  have L23 := Lib.hid b3
  clear b3
  go_wp2_with fail
  refine (CF.out w3 B3.out).mono ?_
  rintro e w4 ⟨rfl, b4⟩
  have B4 := Lib.hid (Below.step B3.out b4 (Nat.le_refl _))
  have L24 := Lib.hid (Below.step L23.out b4 (Nat.le_refl _))
  clear b4
  go_wp2_with fail
  refine (RF.out w4 B4.out).mono ?_
  rintro e w5 ⟨rfl, b5⟩
  have B5 := Lib.hid (Below.step B4.out b5 (Nat.le_refl _))
  have L25 := Lib.hid (Below.step L24.out b5 (Nat.le_refl _))
  clear b5
  go_wp2_with fail
  refine (CG.out w5 w2 x2 c2 B5.out R2.out L25.out).mono ?_
  rintro e w6 ⟨rfl, b6⟩
  have B6 := Lib.hid (Below.step B5.out b6 (Nat.le_refl _))
  have L26 := Lib.hid (Below.step L25.out b6 (Nat.le_refl _))
  clear b6
  go_wp2_with fail
  refine (RG.out w6 w2 x2 c2 B6.out R2.out L26.out).mono ?_
  rintro e w7 ⟨rfl, b7⟩
  have B7 := Lib.hid (Below.step B6.out b7 (Nat.le_refl _))
  clear b7
  go_wp2_with fail
  go_ret
  exact ⟨rfl, B7.out⟩
end Go.Proofs.Ytnfmcenedohdnaa
