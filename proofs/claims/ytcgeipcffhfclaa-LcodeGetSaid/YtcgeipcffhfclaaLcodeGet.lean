/- For every string and every place the law LcodeGet returns true: the program's Get and the document's give the same answers. No condition. -/
import Derived.Test.YtcgeipcffhfclaaAwake3
namespace Go.Proofs.Ytcgeipcffhfclaa.lcodeGet
open Go.ChangeShapes Go.WideShapes Go.ChangeAt Go.RowKit

theorem own : ownKnob Try.prog.godebug = none := by kernel_rfl

set_option maxRecDepth 100000 in
set_option maxHeartbeats 1000000 in
theorem walk (s : ByteArray) (a : Int) (w : World) (hs : s.size ≤ maxLen) :
    Calls Try.prog 3 #[.string s, .int .i64 a] w fun e w' => e = .returned (.bool true) ∧ Below w.heap.size w w' := by
  have HS := Lib.hid hs
  unfold maxLen at hs
  by_cases h3 : (300 : Int) < (s.size : Int)
  · go_enter Try.func3, Try.ntmps3
    go_wp2_with fail
    refine (awake3_any _).mono ?_
    rintro e w1 ⟨rfl, h1⟩
    go_wp2_with fail
    go_ret
    exact ⟨rfl, h1⟩
  · have d0 : decide ((300 : Int) < (s.size : Int)) = false := by simpa using h3
    have d1 : decide (300 < s.size) = false := by simp; omega
    have z1 : (ByteArray.mk #[3]).size = 1 := rfl
    have z2 : (ByteArray.mk #[3, 1]).size = 2 := rfl
    have a1 : ∀ W, (Op.stringOp .add ⟨#[3]⟩ s).run Try.prog W = .ok (.string (⟨#[3]⟩ ++ s)) W := fun W => run_string_add_sum W _ _ (by omega)
    have a2 : ∀ W, (Op.stringOp .add ⟨#[3, 1]⟩ s).run Try.prog W = .ok (.string (⟨#[3, 1]⟩ ++ s)) W := fun W => run_string_add_sum W _ _ (by omega)
    have H1 : Hid ((⟨#[3]⟩ ++ s).size ≤ maxLen) := Lib.hid (by rw [ByteArray.size_append]; unfold maxLen; omega)
    have H2 : Hid ((⟨#[3, 1]⟩ ++ s).size ≤ maxLen) := Lib.hid (by rw [ByteArray.size_append]; unfold maxLen; omega)
    clear z1 z2
    go_enter Try.func3, Try.ntmps3
    go_wp2_with fail
    refine (awake3_any _).mono ?_
    rintro e w1 ⟨rfl, h1⟩
    go_wp2_with fail
    refine (get3_any _ _ _ HS.out).mono ?_
    rintro e w2 ⟨rfl, h2⟩
    have h2' := Lib.hid (Below.step h1 h2 (Nat.le_refl _))
    go_wp2_with fail
    refine (get3_any _ _ _ HS.out).mono ?_
    rintro e w3 ⟨rfl, h3⟩
    have h3' := Lib.hid (Below.step h2'.out h3 (Nat.le_refl _))
    go_wp2_with fail
    refine (get3_any _ _ _ H1.out).mono ?_
    rintro e w4 ⟨rfl, h4⟩
    have h4' := Lib.hid (Below.step h3'.out h4 (Nat.le_refl _))
    go_wp2_with fail
    refine (get3_any _ _ _ H2.out).mono ?_
    rintro e w5 ⟨rfl, h5⟩
    have h5' := Lib.hid (Below.step h4'.out h5 (Nat.le_refl _))
    go_wp2_with fail
    go_ret
    exact ⟨rfl, h5'.out⟩

set_option maxRecDepth 100000 in
theorem lifted (os : Os) (started : os.Started) (H : Type) (enc : TypeId × Value → H) :
    ReturnsInHanded {} Try.checked os 3 .any (Rows.lcodeGetSpec.pre6 enc Try.prog Try.f3 Rows.lcodeGetRow.domain false) (Rows.lcodeGetSpec.post enc Try.prog Try.f3 false true false false) := by
  refine returnsInHanded_of_change (C := Try.checked) own started (by kernel_rfl) Try.func3
    (ChangeSpec.witness6 (enc := enc) (C := Try.checked) false ⟨#[], #[.string ⟨#[]⟩, .int .i64 0], []⟩ 8 (by kernel_rfl) (by kernel_rfl) (by kernel_rfl) (by kernel_rfl)) ?_
  intro W base args ds gs before hval0 hW hcnd _
  have hval : ∀ (j : Nat) t v, Try.f3.params[j]? = some t → args[j]? = some v → Value.okWide Try.prog W .any base t v := hval0
  have hW' := hW
  obtain ⟨p, q, hA0, hV, rfl, hfz, hnd⟩ := hW
  have hA : DataW.TrodAll enc Try.prog W 0 (fun _ => true) true Try.f3.params.toList args.toList ds p := hA0
  rw [Try.params3] at hA hval
  obtain ⟨v0, v1, d0, d1, p0, p1, rfl, rfl, rfl, h0, h1⟩ := trodAll_two hA
  obtain ⟨rfl, rfl⟩ := trodVars_none hV
  obtain ⟨s, rfl, rfl, rfl, hs⟩ := Go.ChangeMaps.open_string Try.underlying9 (hval 0 9 v0 rfl rfl) h0
  obtain ⟨a0, rfl, rfl, rfl, w0⟩ := open_int Try.underlying3 (hval 1 3 v1 rfl rfl) h1
  clear hA0 hval0
  simp only [List.append_nil] at hW'
  refine (walk s a0 W hs).mono fun e W' ⟨he, hb⟩ => ?_
  subst he
  exact ⟨_, rfl, ⟨_, _, _, [], _, [], hW', trodAll_mk1 (shut_bool Try.underlying4 _), trodAll_mk2 (Go.ChangeMaps.shut_string Try.underlying9 hs) (shut_int Try.underlying3 w0), rfl, hb.frame _, fun h => by cases h⟩⟩

theorem over : Rows.lcodeGetRow.holds Try.pinned (OpenSpec.ofChange Rows.lcodeGetSpec) :=
  OpenClaim.holds_of_wide 3 Try.f3 rfl rfl rfl rfl rfl rfl rfl ⟨rfl, rfl, rfl, rfl, rfl⟩ rfl rfl rfl rfl rfl (by kernel_rfl) Try.func3 (by kernel_rfl)
    (of_decide_eq_true (by kernel_rfl)) (by unfold Func.isWrapper; first | (rw [if_pos (by decide +kernel)]; kernel_rfl) | (rw [if_neg (by decide +kernel)]; exact ⟨rfl, rfl⟩))
    (fun os started H enc _ => lifted os started H enc)

/-- THE STATEMENT -/
theorem proved : Rows.LcodeGetSaid :=
  over
#print axioms proved
end Go.Proofs.Ytcgeipcffhfclaa.lcodeGet
