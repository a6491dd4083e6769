/- For every string and every place in it the law OctetOnce returns true: where Get reads a number, Put writes the very bytes that stand there; else Get refuses. No condition. -/
import Derived.Test.YtljkbdlfknlanaaBack
import Derived.Test.YtljkbdlfknlanaaAwake
namespace Go.Proofs.Ytljkbdlfknlanaa.octetOnce
open Go.ChangeShapes Go.WideShapes Go.ChangeAt Go.RowKit

theorem own : ownKnob Try.prog.godebug = none := by kernel_rfl

/-- What Get tells, in its three cases. -/
theorem get_cases (s : ByteArray) (k : Nat) (hs : s.size ≤ maxLen) (hk : k ≤ s.size) :
    (∀ w, Calls Try.prog 14 #[.string s, .int .i64 k] w fun e w' => e = .returned (.tuple #[.int .i64 0, .int .i64 0, .int .i64 20]) ∧ w = w') ∨
    (∀ w, Calls Try.prog 14 #[.string s, .int .i64 k] w fun e w' => e = .returned (.tuple #[.int .i64 0, .int .i64 0, .int .i64 21]) ∧ w = w') ∨
    ∃ m cnt : Nat, m ≤ 1099511627776 ∧ 1 ≤ cnt ∧ k + cnt ≤ s.size ∧ s.extract k (k + cnt) = strOfNums (enc m) ∧
      ∀ w, Calls Try.prog 14 #[.string s, .int .i64 k] w fun e w' => e = .returned (.tuple #[.int .i64 m, .int .i64 ((k : Int) + (cnt : Int)), .int .i64 0]) ∧ w = w' := by
  rcases rd_cases k (s.data.toList.drop k) 0 0 with h | h | ⟨m, cnt, h, h1, h2, h3, _, h5⟩
  · refine .inl fun w => ?_
    have g := get_any s k w hs hk
    rw [h] at g; exact g
  · refine .inr (.inl fun w => ?_)
    have g := get_any s k w hs hk
    rw [h] at g; exact g
  · have h2' : cnt ≤ s.size - k := by simpa using h2
    refine .inr (.inr ⟨m, cnt, by simpa using h5, h1, by omega, ?_, fun w => ?_⟩)
    · apply ByteArray.ext
      rw [strOfNums_eq, ByteArray.data_extract, ← Array.toList_inj, Array.toList_extract, ← h3]
      simp [List.extract_eq_take_drop]
    · have g := get_any s k w hs hk
      rw [h] at g
      simpa [rdV] using g

theorem ret_eq {a b : ByteArray} (h : a = b) : Ending.returned (.bool (a.toList == b.toList)) = .returned (.bool true) := by rw [h]; simp

set_option maxRecDepth 100000 in
set_option maxHeartbeats 1000000 in
theorem walk (s : ByteArray) (x : Int) (w : World) (hs : s.size ≤ maxLen) (hx0 : 0 ≤ x) (hx1 : x < 256) :
    Calls Try.prog 7 #[.string s, .int .u8 x] w fun e w' => e = .returned (.bool true) ∧ Below w.heap.size w w' := by
  have HS := Lib.hid hs
  unfold maxLen at hs
  by_cases hz : s.size = 0
  · have d0 : ((s.size : Int) == 0) = true := beq_iff_eq.2 (by omega)
    clear hz
    go_enter Try.func7, Try.ntmps7
    go_wp2_with fail
    refine (awake_any _).mono ?_
    rintro e w1 ⟨rfl, g1⟩
    go_wp2
    go_ret
    exact ⟨rfl, g1⟩
  · have d0 : ((s.size : Int) == 0) = false := beq_eq_false_iff_ne.2 (by omega)
    by_cases h3 : (300 : Int) < (s.size : Int)
    · clear hz
      go_enter Try.func7, Try.ntmps7
      go_wp2_with fail
      refine (awake_any _).mono ?_
      rintro e w1 ⟨rfl, g1⟩
      go_wp2
      go_ret
      exact ⟨rfl, g1⟩
    · obtain ⟨k, hk1, hk2⟩ : ∃ k : Nat, x % (s.size : Int) = (k : Int) ∧ k < s.size :=
        ⟨(x % (s.size : Int)).toNat, by have := Int.emod_nonneg x (b := (s.size : Int)) (by omega); omega, by have := Int.emod_nonneg x (b := (s.size : Int)) (by omega); have := Int.emod_lt_of_pos x (b := (s.size : Int)) (by omega); omega⟩
      have HK := Lib.hid hk1
      have hp : 0 < (s.size : Int) := by omega
      clear hz
      rcases get_cases s k HS.out (by omega) with h | h | ⟨m, cnt, hm, hc1, hc2, hx, h⟩
      · have HG := Lib.hid h
        clear h
        go_enter Try.func7, Try.ntmps7
        go_wp2_with fail
        refine (awake_any _).mono ?_
        rintro e w1 ⟨rfl, g1⟩
        go_wp2_with fail
        refine (HG.out _).mono ?_
        rintro e w2 ⟨rfl, rfl⟩
        go_wp2
        go_ret
        exact ⟨rfl, g1⟩
      · have HG := Lib.hid h
        clear h
        go_enter Try.func7, Try.ntmps7
        go_wp2_with fail
        refine (awake_any _).mono ?_
        rintro e w1 ⟨rfl, g1⟩
        go_wp2_with fail
        refine (HG.out _).mono ?_
        rintro e w2 ⟨rfl, rfl⟩
        go_wp2
        go_ret
        exact ⟨rfl, g1⟩
      · have HG := Lib.hid h
        have HX := Lib.hid hx
        clear h hx
        have b1 : (k : Int) < (k : Int) + (cnt : Int) := by omega
        have b2 : (k : Int) + (cnt : Int) ≤ (s.size : Int) := by omega
        have b3 : (k : Int) ≤ (k : Int) + (cnt : Int) := by omega
        go_enter Try.func7, Try.ntmps7
        go_wp2_with fail
        refine (awake_any _).mono ?_
        rintro e w1 ⟨rfl, g1⟩
        go_wp2_with fail
        refine (HG.out _).mono ?_
        rintro e w2 ⟨rfl, rfl⟩
        go_wp2_with fail
        refine (put_any m hm _).mono ?_
        rintro e w3 ⟨rfl, g3⟩
        go_wp2
        go_ret
        exact ⟨ret_eq (by rw [HX.out]), g1.trans (g3.mono g1.size)⟩

set_option maxRecDepth 100000 in
theorem lifted (os : Os) (started : os.Started) (H : Type) (enc : TypeId × Value → H) :
    ReturnsInHanded {} Try.checked os 7 .any (Rows.octetOnceSpec.pre6 enc Try.prog Try.f7 Rows.octetOnceRow.domain false) (Rows.octetOnceSpec.post enc Try.prog Try.f7 false true false false) := by
  refine returnsInHanded_of_change (C := Try.checked) own started (by kernel_rfl) Try.func7
    (ChangeSpec.witness6 (enc := enc) (C := Try.checked) false ⟨#[], #[.string ⟨#[]⟩, .int .u8 0], []⟩ 8 (by kernel_rfl) (by kernel_rfl) (by kernel_rfl) (by kernel_rfl)) ?_
  intro W base args ds gs before hval0 hW hcnd _
  have hval : ∀ (j : Nat) t v, Try.f7.params[j]? = some t → args[j]? = some v → Value.okWide Try.prog W .any base t v := hval0
  have hW' := hW
  obtain ⟨p, q, hA0, hV, rfl, hfz, hnd⟩ := hW
  have hA : DataW.TrodAll enc Try.prog W 0 (fun _ => true) true Try.f7.params.toList args.toList ds p := hA0
  rw [Try.params7] at hA hval
  obtain ⟨v0, v1, d0, d1, p0, p1, rfl, rfl, rfl, h0, h1⟩ := trodAll_two hA
  obtain ⟨rfl, rfl⟩ := trodVars_none hV
  obtain ⟨s, rfl, rfl, rfl, hs⟩ := Go.ChangeMaps.open_string Try.underlying9 (hval 0 9 v0 rfl rfl) h0
  obtain ⟨a0, rfl, rfl, rfl, w0⟩ := open_int Try.underlying5 (hval 1 5 v1 rfl rfl) h1
  clear hA0 hval0
  simp only [List.append_nil] at hW'
  have hw := w0
  have e1 : IntKind.u8.min = 0 := rfl
  have e2 : IntKind.u8.max = 255 := rfl
  simp only [Lit.wf, e1, e2, Bool.and_eq_true, decide_eq_true_eq] at hw
  refine (walk s a0 W hs (by omega) (by omega)).mono fun e W' ⟨he, hb⟩ => ?_
  subst he
  exact ⟨_, rfl, ⟨_, _, _, [], _, [], hW', trodAll_mk1 (shut_bool Try.underlying4 _), trodAll_mk2 (Go.ChangeMaps.shut_string Try.underlying9 hs) (shut_int Try.underlying5 w0), rfl, hb.frame _, fun h => by cases h⟩⟩

theorem over : Rows.octetOnceRow.holds Try.pinned (OpenSpec.ofChange Rows.octetOnceSpec) :=
  OpenClaim.holds_of_wide 7 Try.f7 rfl rfl rfl rfl rfl rfl rfl ⟨rfl, rfl, rfl, rfl, rfl⟩ rfl rfl rfl rfl rfl (by kernel_rfl) Try.func7 (by kernel_rfl)
    (of_decide_eq_true (by kernel_rfl)) (by unfold Func.isWrapper; first | (rw [if_pos (by decide +kernel)]; kernel_rfl) | (rw [if_neg (by decide +kernel)]; exact ⟨rfl, rfl⟩))
    (fun os started H enc _ => lifted os started H enc)

/-- THE STATEMENT -/
theorem proved : Rows.OctetOnceSaid :=
  over
#print axioms proved
end Go.Proofs.Ytljkbdlfknlanaa.octetOnce
