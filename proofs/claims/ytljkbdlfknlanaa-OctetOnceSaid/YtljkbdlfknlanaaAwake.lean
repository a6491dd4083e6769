/- The law's own sample calls answer as any right program does: awake returns true and only makes new memory. -/
import Derived.Test.YtljkbdlfknlanaaPut
import Derived.Test.YtljkbdlfknlanaaSum
namespace Go.Proofs.Ytljkbdlfknlanaa
open Go.RowKit

theorem enc300 : strOfNums (enc 300) = ⟨#[172, 2]⟩ := by
  rw [enc_more (by omega), enc_small (by omega)]; rfl
theorem put300 (w : World) : Calls Try.prog 8 #[.int .i64 300] w fun e w' => e = .returned (.tuple #[.string ⟨#[172, 2]⟩, .int .i64 0]) ∧ Below w.heap.size w w' := by
  have := put_any 300 (by omega) w
  rw [enc300] at this
  exact this
theorem getL {l : List UInt8} {a : Nat} {r : Nat × Nat × Nat} (w : World) (h : rd a 0 0 (l.drop a) = r) (hl : l.length ≤ 1000) (ha : a ≤ l.length) :
    Calls Try.prog 14 #[.string ⟨l.toArray⟩, .int .i64 a] w fun e w' => e = .returned (rdV r) ∧ w = w' := by
  have := get_any ⟨l.toArray⟩ a w (by show l.toArray.size ≤ _; unfold maxLen; simp; omega) (by show _ ≤ l.toArray.size; simpa using ha)
  simp only [h] at this
  exact this
theorem get1 (w : World) : Calls Try.prog 14 #[.string ⟨#[120, 172, 2, 121]⟩, .int .i64 1] w fun e w' => e = .returned (.tuple #[.int .i64 300, .int .i64 3, .int .i64 0]) ∧ w = w' :=
  getL (l := [120, 172, 2, 121]) (a := 1) (r := (300, 3, 0)) w (by decide +kernel) (by decide) (by decide)
theorem get2 (w : World) : Calls Try.prog 14 #[.string ⟨#[128]⟩, .int .i64 0] w fun e w' => e = .returned (.tuple #[.int .i64 0, .int .i64 0, .int .i64 21]) ∧ w = w' :=
  getL (l := [128]) (a := 0) (r := (0, 0, 21)) w (by decide +kernel) (by decide) (by decide)
theorem get3 (w : World) : Calls Try.prog 14 #[.string ⟨#[128, 0]⟩, .int .i64 0] w fun e w' => e = .returned (.tuple #[.int .i64 0, .int .i64 0, .int .i64 20]) ∧ w = w' :=
  getL (l := [128, 0]) (a := 0) (r := (0, 0, 20)) w (by decide +kernel) (by decide) (by decide)
theorem sum1 (w : World) : Calls Try.prog 12 #[.string ⟨#[97]⟩] w fun e w' => e = .returned (.int .i64 98) ∧ w = w' := by
  have := sum_any ⟨#[97]⟩ w (by show (#[97] : Array UInt8).size ≤ _; unfold maxLen; simp)
  exact this

theorem add1 (W : World) : (Op.stringOp .add ⟨#[120]⟩ ⟨#[172, 2]⟩).run Try.prog W = .ok (.string ⟨#[120, 172, 2]⟩) W :=
  run_string_add_sum W _ _ (by decide)
theorem add2 (W : World) : (Op.stringOp .add ⟨#[120, 172, 2]⟩ ⟨#[121]⟩).run Try.prog W = .ok (.string ⟨#[120, 172, 2, 121]⟩) W :=
  run_string_add_sum W _ _ (by decide)

set_option maxRecDepth 100000 in
set_option maxHeartbeats 1000000 in
theorem awake_any (w : World) : Calls Try.prog 10 #[] w fun e w' => e = .returned (.bool true) ∧ Below w.heap.size w w' := by
  go_enter Try.func10, Try.ntmps10
  go_wp2_with fail
  refine (put300 _).mono ?_
  rintro e w1 ⟨rfl, hb1⟩
  have a1 := add1
  have a2 := add2
  go_wp2_with fail
  refine (get1 _).mono ?_
  rintro e w2 ⟨rfl, rfl⟩
  go_wp2_with fail
  refine (put_no (-1) (by omega) _).mono ?_
  rintro e w3 ⟨rfl, hb3⟩
  go_wp2_with fail
  refine (get2 _).mono ?_
  rintro e w2 ⟨rfl, rfl⟩
  go_wp2_with fail
  refine (get3 _).mono ?_
  rintro e w2 ⟨rfl, rfl⟩
  go_wp2_with fail
  refine (sum1 _).mono ?_
  rintro e w2 ⟨rfl, rfl⟩
  go_wp2
  go_ret
  exact ⟨rfl, hb1.trans (hb3.mono hb1.size)⟩
end Go.Proofs.Ytljkbdlfknlanaa
