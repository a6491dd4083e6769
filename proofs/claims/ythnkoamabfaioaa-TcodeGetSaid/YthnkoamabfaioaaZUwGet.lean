/- The walk of the law TcodeGet. The conditions: what the program's Put and Get answer (GetC, PutC). -/
import Derived.Test.YthnkoamabfaioaaZP4
namespace Go.Proofs.Ythnkoamabfaioaa.tcodeGet
open Go.ChangeShapes Go.WideShapes Go.ChangeAt Go.RowKit


set_option maxRecDepth 100000 in
set_option maxHeartbeats 1000000 in
theorem walk (hG : GetC) (hP : PutC) (s : ByteArray) (a : Int) (w : World) (hs : s.size ≤ maxLen) :
    Calls Try.prog 3 #[.string s, .int .i64 a] w fun e w' => e = .returned (.bool true) ∧ Below w.heap.size w w' := by
  have HS := Lib.hid hs
  unfold maxLen at hs
  by_cases h3 : (300 : Int) < (s.size : Int)
  · go_enter Try.func3, Try.ntmps3
    go_wp2_with fail
    refine (awake14_any hG hP _).mono ?_
    rintro e w1 ⟨rfl, h1⟩
    go_wp2_with fail
    go_ret
    exact ⟨rfl, h1⟩
  · have d0 : decide ((300 : Int) < (s.size : Int)) = false := by simpa using h3
    have d1 : decide (300 < s.size) = false := by simp; omega
    have z1 : (ByteArray.mk #[5, 2, 1]).size = 3 := rfl
    have z2 : (ByteArray.mk #[3]).size = 1 := rfl
    have a1 : ∀ W, (Op.stringOp .add ⟨#[5, 2, 1]⟩ s).run Try.prog W = .ok (.string (⟨#[5, 2, 1]⟩ ++ s)) W := fun W => run_string_add_sum W _ _ (by omega)
    have a2 : ∀ W, (Op.stringOp .add ⟨#[3]⟩ s).run Try.prog W = .ok (.string (⟨#[3]⟩ ++ s)) W := fun W => run_string_add_sum W _ _ (by omega)
    have H1 : Hid ((⟨#[5, 2, 1]⟩ ++ s).size ≤ maxLen) := Lib.hid (by rw [ByteArray.size_append]; unfold maxLen; omega)
    have H2 : Hid ((⟨#[3]⟩ ++ s).size ≤ maxLen) := Lib.hid (by rw [ByteArray.size_append]; unfold maxLen; omega)
    clear z1 z2
    go_enter Try.func3, Try.ntmps3
    go_wp2_with fail
    refine (awake14_any hG hP _).mono ?_
    rintro e w1 ⟨rfl, h1⟩
    go_wp2_with fail
    refine (get14_any hG _ _ _ HS.out).mono ?_
    rintro e w2 ⟨rfl, h2⟩
    have h2' := Lib.hid (Below.step h1 h2 (Nat.le_refl _))
    go_wp2_with fail
    refine (get14_any hG _ _ _ HS.out).mono ?_
    rintro e w3 ⟨rfl, h3⟩
    have h3' := Lib.hid (Below.step h2'.out h3 (Nat.le_refl _))
    go_wp2_with fail
    refine (get14_any hG _ _ _ H1.out).mono ?_
    rintro e w4 ⟨rfl, h4⟩
    have h4' := Lib.hid (Below.step h3'.out h4 (Nat.le_refl _))
    go_wp2_with fail
    refine (get14_any hG _ _ _ H2.out).mono ?_
    rintro e w5 ⟨rfl, h5⟩
    have h5' := Lib.hid (Below.step h4'.out h5 (Nat.le_refl _))
    go_wp2_with fail
    go_ret
    exact ⟨rfl, h5'.out⟩

end Go.Proofs.Ythnkoamabfaioaa.tcodeGet
