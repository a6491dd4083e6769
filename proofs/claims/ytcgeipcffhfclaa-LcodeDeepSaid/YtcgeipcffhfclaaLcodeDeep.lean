/- For every byte and flag the law LcodeDeep returns true: of deep bytes, and of bytes of many levels, the program's Get and the document's give the same answers. No condition. -/
import Derived.Test.YtcgeipcffhfclaaAwake3
import Derived.Test.YtcgeipcffhfclaaOpen3
import Derived.Carry
namespace Go.Proofs.Ytcgeipcffhfclaa.lcodeDeep
open Go.ChangeShapes Go.WideShapes Go.ChangeAt Go.RowKit

theorem own : ownKnob Try.prog.godebug = none := by kernel_rfl

/-- Some string, of at most so many bytes. -/
def SomeStr (m : Nat) (w : World) (e : Ending) (w' : World) : Prop := ∃ t : ByteArray, t.size ≤ m ∧ e = .returned (.string t) ∧ w = w'
theorem add_any (a b : ByteArray) (h : a.size + b.size ≤ 100000) (W : World) : (Op.stringOp .add a b).run Try.prog W = .ok (.string (a ++ b)) W := run_string_add_sum W _ _ (by omega)
theorem size1 (x : UInt8) : (ByteArray.mk #[x]).size = 1 := rfl

/-- At most so many bytes, so deep. -/
def mx : Nat → Nat
  | 0 => 1
  | d + 1 => 2 * mx d + 1
theorem mx_le : ∀ d, 1 ≤ mx d
  | 0 => Nat.le_refl _
  | d + 1 => by simp only [mx]; omega
set_option maxRecDepth 100000 in
set_option maxHeartbeats 1000000 in
theorem full_any (d : Nat) : ∀ (D : Int) (w : World), D ≤ d → mx d ≤ 1000 → -10 ≤ D → Calls Try.prog 15 #[.int .i64 D] w (SomeStr (mx d) w) := by
  induction d with
  | zero =>
    intro D w hD _ hD2
    have d0 : decide (D < 1) = true := by simp; omega
    have HE : Hid (SomeStr (mx 0) w (.returned (.string ⟨#[1]⟩)) w) := Lib.hid ⟨_, by show 1 ≤ 1; omega, rfl, rfl⟩
    go_enter Try.func15, Try.ntmps15
    go_wp2_with fail
    go_ret
    exact HE.out
  | succ d ih =>
    intro D w hD hm hD2
    have hm' : mx d ≤ 499 := by simp only [mx] at hm; omega
    by_cases h1 : D < 1
    · have d0 : decide (D < 1) = true := by simpa using h1
      have HE : Hid (SomeStr (mx (d + 1)) w (.returned (.string ⟨#[1]⟩)) w) := Lib.hid ⟨_, by show 1 ≤ _; exact mx_le _, rfl, rfl⟩
      clear ih hD hm
      go_enter Try.func15, Try.ntmps15
      go_wp2_with fail
      go_ret
      exact HE.out
    · have d0 : decide (D < 1) = false := by simpa using h1
      have HI : Hid (∀ W, Calls Try.prog 15 #[.int .i64 (D - 1)] W (SomeStr (mx d) W)) := Lib.hid (fun W => ih (D - 1) W (by omega) (by omega) (by omega))
      have hDl : D ≤ 1000 := by
        have : ∀ d, d ≤ mx d := fun d => by induction d with | zero => exact Nat.zero_le _ | succ d ih => simp only [mx]; omega
        have := this (d + 1)
        omega
      have HX : Hid (mx (d + 1) = 2 * mx d + 1) := Lib.hid rfl
      clear ih hD hm
      go_enter Try.func15, Try.ntmps15
      go_wp2_with fail
      refine (HI.out _).mono ?_
      rintro e w1 ⟨t1, z1, rfl, rfl⟩
      have a1 := add_any ⟨#[3]⟩ t1 (by rw [size1]; omega)
      go_wp2_with fail
      refine (HI.out _).mono ?_
      rintro e w1 ⟨t2, z2, rfl, rfl⟩
      have zz : (⟨#[3]⟩ ++ t1).size ≤ 500 := by rw [ByteArray.size_append, size1]; omega
      have a2 := add_any (⟨#[3]⟩ ++ t1) t2 (by omega)
      have HE : Hid (SomeStr (mx (d + 1)) w (.returned (.string (⟨#[3]⟩ ++ t1 ++ t2))) w) := Lib.hid ⟨_, by rw [HX.out, ByteArray.size_append, ByteArray.size_append, size1]; omega, rfl, rfl⟩
      clear zz z1 z2
      go_wp2_with fail
      go_ret
      exact HE.out
theorem full6 (D : Int) (w : World) (h0 : -10 ≤ D) (h : D ≤ 6) : Calls Try.prog 15 #[.int .i64 D] w (SomeStr 200 w) :=
  (full_any 6 D w (by omega) (by decide) h0).mono (by rintro e w' ⟨t, h1, h2, h3⟩; exact ⟨t, Nat.le_trans h1 (by decide), h2, h3⟩)

set_option maxRecDepth 100000 in
set_option maxHeartbeats 4000000 in
theorem walk_deep (X : Int) (w : World) (hX0 : 0 ≤ X) (hX1 : X < 256) :
    Calls Try.prog 6 #[.int .u8 X, .bool false] w fun e w' => e = .returned (.bool true) ∧ Below w.heap.size w w' := by
  go_enter Try.func6, Try.ntmps6
  go_wp2_with fail
  go_loop [5, 6] (fun s i => ∃ (k : Nat) (t : ByteArray), k ≤ 15 ∧ t.size ≤ k ∧ i = .int .i64 k ∧ s = .string t) (fun _ i => 15 - (intOf i).toNat)
  case atStart => exact ⟨0, ⟨#[]⟩, by omega, by show 0 ≤ 0; omega, rfl, rfl⟩
  case round =>
    obtain ⟨k, t, hk, ht, rfl, rfl⟩ := hrel
    by_cases hlt : (k : Int) < X % 15
    · have a1 := add_any t ⟨#[2]⟩ (by rw [size1]; omega)
      have HT : Hid ((t ++ ⟨#[2]⟩).size ≤ k + 1) := Lib.hid (by rw [ByteArray.size_append, size1]; omega)
      have hk' : (k : Int) < 15 := by omega
      go_wp2_with fail
      go_round
      case rel => exact ⟨k + 1, _, by omega, HT.out, by go_num, rfl⟩
      case measure => simp [intOf]; omega
    · have dlt : decide ((k : Int) < X % 15) = false := by simpa using hlt
      have a1 := add_any t ⟨#[1]⟩ (by rw [size1]; omega)
      have Z1 : Hid ((t ++ ⟨#[1]⟩).size ≤ maxLen) := Lib.hid (by rw [ByteArray.size_append, size1]; unfold maxLen; omega)
      have Z0 : Hid (t.size ≤ maxLen) := Lib.hid (by unfold maxLen; omega)
      go_wp2_with fail
      refine (awake3_any _).mono ?_
      rintro e w1 ⟨rfl, g1⟩
      go_wp2_with fail
      refine (get3_any _ _ _ Z1.out).mono ?_
      rintro e w2 ⟨rfl, g2⟩
      have G2 := Lib.hid (Below.step g1 g2 (Nat.le_refl _))
      go_wp2_with fail
      refine (get3_any _ _ _ Z0.out).mono ?_
      rintro e w3 ⟨rfl, g3⟩
      have G3 := Lib.hid (Below.step G2.out g3 (Nat.le_refl _))
      go_wp2_with fail
      go_ret
      exact ⟨rfl, G3.out⟩

set_option maxRecDepth 100000 in
set_option maxHeartbeats 4000000 in
theorem walk_wide (X : Int) (w : World) (hX0 : 0 ≤ X) (hX1 : X < 256) :
    Calls Try.prog 6 #[.int .u8 X, .bool true] w fun e w' => e = .returned (.bool true) ∧ Below w.heap.size w w' := by
  go_enter Try.func6, Try.ntmps6
  go_wp2_with fail
  go_loop [5, 7, 8] (fun s i _ => ∃ (k : Nat) (t : ByteArray), k ≤ 63 ∧ t.size ≤ k ∧ i = .int .i64 k ∧ s = .string t) (fun _ i _ => 63 - (intOf i).toNat)
  case atStart => exact ⟨0, ⟨#[]⟩, by omega, by show 0 ≤ 0; omega, rfl, rfl⟩
  case round =>
    obtain ⟨k, t, hk, ht, rfl, rfl⟩ := hrel
    by_cases hlt : (k : Int) < 63
    · have a1 := add_any t ⟨#[1]⟩ (by rw [size1]; omega)
      have a3 := add_any t ⟨#[3]⟩ (by rw [size1]; omega)
      have HT1 : Hid ((t ++ ⟨#[1]⟩).size ≤ k + 1) := Lib.hid (by rw [ByteArray.size_append, size1]; omega)
      have HT3 : Hid ((t ++ ⟨#[3]⟩).size ≤ k + 1) := Lib.hid (by rw [ByteArray.size_append, size1]; omega)
      by_cases h5 : (k : Int) < 5
      · go_wp2_with fail
        go_round
        case rel => exact ⟨k + 1, _, by omega, HT3.out, by go_num, rfl⟩
        case measure => simp [intOf]; omega
      · have d5 : decide ((k : Int) < 5) = false := by simpa using h5
        go_wp2_with fail
        go_round
        case rel => exact ⟨k + 1, _, by omega, HT1.out, by go_num, rfl⟩
        case measure => simp [intOf]; omega
    · have dlt : decide ((k : Int) < 63) = false := by simpa using hlt
      have ht' : t.size ≤ 63 := by omega
      clear ht hk hlt
      have x5 : X % 5 ≤ 4 := by omega
      have x50 : 0 ≤ X % 5 := by omega
      have x3 : X % 3 ≤ 2 := by omega
      have x30 : 0 ≤ X % 3 := by omega
      go_wp2_with fail
      refine (awake3_any _).mono ?_
      rintro e w1 ⟨rfl, g1⟩
      have G1 := Lib.hid g1
      clear g1
      go_wp2_with fail
      refine (full6 _ _ (by omega) (by omega)).mono ?_
      rintro e w2 ⟨t1, z1, rfl, rfl⟩
      have a1 := add_any t1 t (by omega)
      have Z1 : Hid ((t1 ++ t).size ≤ maxLen) := Lib.hid (by rw [ByteArray.size_append]; unfold maxLen; omega)
      go_wp2_with fail
      refine (get3_any _ _ _ Z1.out).mono ?_
      rintro e w2 ⟨rfl, g2⟩
      have G2 := Lib.hid (Below.step G1.out g2 (Nat.le_refl _))
      clear g2 a1 Z1 z1
      go_wp2_with fail
      refine (full6 _ _ (by omega) (by omega)).mono ?_
      rintro e w3 ⟨t2, z2, rfl, rfl⟩
      have a2 := add_any ⟨#[3]⟩ t2 (by rw [size1]; omega)
      go_wp2_with fail
      refine (full6 _ _ (by omega) (by omega)).mono ?_
      rintro e w3 ⟨t3, z3, rfl, rfl⟩
      have y2 : (⟨#[3]⟩ ++ t2).size ≤ 201 := by rw [ByteArray.size_append, size1]; omega
      have a3 := add_any (⟨#[3]⟩ ++ t2) t3 (by omega)
      have Z3 : Hid ((⟨#[3]⟩ ++ t2 ++ t3).size ≤ maxLen) := Lib.hid (by rw [ByteArray.size_append]; unfold maxLen; omega)
      clear y2
      go_wp2_with fail
      refine (get3_any _ _ _ Z3.out).mono ?_
      rintro e w3 ⟨rfl, g3⟩
      have G3 := Lib.hid (Below.step G2.out g3 (Nat.le_refl _))
      clear g3 a2 a3 Z3 z2 z3 G2 G1
      go_wp2_with fail
      refine (full6 _ _ (by omega) (by omega)).mono ?_
      rintro e w4 ⟨t4, z4, rfl, rfl⟩
      have a4 := add_any ⟨#[3]⟩ t4 (by rw [size1]; omega)
      have y4 : (⟨#[3]⟩ ++ t4).size ≤ 201 := by rw [ByteArray.size_append, size1]; omega
      have a5 := add_any (⟨#[3]⟩ ++ t4) ⟨#[3]⟩ (by rw [size1]; omega)
      have y5 : (⟨#[3]⟩ ++ t4 ++ ⟨#[3]⟩).size ≤ 202 := by rw [ByteArray.size_append, size1]; omega
      clear y4
      have Y5 := Lib.hid y5
      clear y5
      go_wp2_with fail
      refine (full6 _ _ (by omega) (by omega)).mono ?_
      rintro e w4 ⟨t5, z5, rfl, rfl⟩
      have a6 := add_any (⟨#[3]⟩ ++ t4 ++ ⟨#[3]⟩) t5 (by have := Y5.out; omega)
      have Y6 : Hid ((⟨#[3]⟩ ++ t4 ++ ⟨#[3]⟩ ++ t5).size ≤ 402) := Lib.hid (by have := Y5.out; rw [ByteArray.size_append]; omega)
      go_wp2_with fail
      refine (full6 _ _ (by omega) (by omega)).mono ?_
      rintro e w4 ⟨t6, z6, rfl, rfl⟩
      have a7 := add_any (⟨#[3]⟩ ++ t4 ++ ⟨#[3]⟩ ++ t5) t6 (by have := Y6.out; omega)
      have Z7 : Hid ((⟨#[3]⟩ ++ t4 ++ ⟨#[3]⟩ ++ t5 ++ t6).size ≤ maxLen) := Lib.hid (by have := Y6.out; rw [ByteArray.size_append]; unfold maxLen; omega)
      go_wp2_with fail
      refine (get3_any _ _ _ Z7.out).mono ?_
      rintro e w4 ⟨rfl, g4⟩
      have G4 := Lib.hid (Below.step G3.out g4 (Nat.le_refl _))
      go_wp2_with fail
      go_ret
      exact ⟨rfl, G4.out⟩

set_option maxRecDepth 100000 in
theorem lifted (os : Os) (started : os.Started) (H : Type) (enc : TypeId × Value → H) :
    ReturnsInHanded {} Try.checked os 6 .any (Rows.lcodeDeepSpec.pre6 enc Try.prog Try.f6 Rows.lcodeDeepRow.domain false) (Rows.lcodeDeepSpec.post enc Try.prog Try.f6 false true false false) := by
  refine returnsInHanded_of_change (C := Try.checked) own started (by kernel_rfl) Try.func6
    (ChangeSpec.witness6 (enc := enc) (C := Try.checked) false ⟨#[], #[.int .u8 0, .bool false], []⟩ 8 (by kernel_rfl) (by kernel_rfl) (by kernel_rfl) (by kernel_rfl)) ?_
  intro W base args ds gs before hval0 hW hcnd _
  have hval : ∀ (j : Nat) t v, Try.f6.params[j]? = some t → args[j]? = some v → Value.okWide Try.prog W .any base t v := hval0
  have hW' := hW
  obtain ⟨p, q, hA0, hV, rfl, hfz, hnd⟩ := hW
  have hA : DataW.TrodAll enc Try.prog W 0 (fun _ => true) true Try.f6.params.toList args.toList ds p := hA0
  rw [Try.params6] at hA hval
  obtain ⟨v0, v1, d0, d1, p0, p1, rfl, rfl, rfl, h0, h1⟩ := trodAll_two hA
  obtain ⟨rfl, rfl⟩ := trodVars_none hV
  obtain ⟨X, rfl, rfl, rfl, w0⟩ := open_int Try.underlying5 (hval 0 5 v0 rfl rfl) h0
  obtain ⟨b, rfl, rfl, rfl⟩ := open_bool Try.underlying4 (hval 1 4 v1 rfl rfl) h1
  have hX := u8_range w0
  clear hA0 hval0
  simp only [List.append_nil] at hW'
  have key : Calls Try.prog 6 #[.int .u8 X, .bool b] W fun e w' => e = .returned (.bool true) ∧ Below W.heap.size W w' := by
    cases b
    · exact walk_deep X W hX.1 hX.2
    · exact walk_wide X W hX.1 hX.2
  refine key.mono fun e W' ⟨he, hb⟩ => ?_
  subst he
  exact ⟨_, rfl, ⟨_, _, _, [], _, [], hW', trodAll_mk1 (shut_bool Try.underlying4 _), trodAll_mk2 (shut_int Try.underlying5 w0) (shut_bool Try.underlying4 _), rfl, hb.frame _, fun h => by cases h⟩⟩

theorem over : Rows.lcodeDeepRow.holds Try.pinned (OpenSpec.ofChange Rows.lcodeDeepSpec) :=
  OpenClaim.holds_of_wide 6 Try.f6 rfl rfl rfl rfl rfl rfl rfl ⟨rfl, rfl, rfl, rfl, rfl⟩ rfl rfl rfl rfl rfl (by kernel_rfl) Try.func6 (by kernel_rfl)
    (of_decide_eq_true (by kernel_rfl)) (by unfold Func.isWrapper; first | (rw [if_pos (by decide +kernel)]; kernel_rfl) | (rw [if_neg (by decide +kernel)]; exact ⟨rfl, rfl⟩))
    (fun os started H enc _ => lifted os started H enc)

/-- THE STATEMENT -/
theorem proved : Rows.LcodeDeepSaid :=
  over
#print axioms proved
end Go.Proofs.Ytcgeipcffhfclaa.lcodeDeep
