/- For every number and any bytes around it the law OctetBack returns true: Get reads back what Put wrote, and the position after it. No condition. -/
import Derived.Test.YtljkbdlfknlanaaBack
import Derived.Test.YtljkbdlfknlanaaAwake
import Derived.SizedLaws
namespace Go.Proofs.Ytljkbdlfknlanaa.octetBack
open Go.ChangeShapes Go.WideShapes Go.ChangeAt Go.RowKit

theorem own : ownKnob Try.prog.godebug = none := by kernel_rfl

/-- Get at the place behind A, where S stands, which is what Put wrote of m. -/
theorem get_back (A S B : ByteArray) (m : Nat) (w : World) (hA : A.size ≤ 1000) (hB : B.size ≤ 1000) (hm : m < 1099511627776) (hS : S = strOfNums (enc m)) :
    Calls Try.prog 14 #[.string (A ++ S ++ B), .int .i64 A.size] w fun e w' => e = .returned (.tuple #[.int .i64 m, .int .i64 ((A.size : Int) + (S.size : Int)), .int .i64 0]) ∧ w = w' := by
  have hl := enc_len6 (n := m) (by omega)
  have hs : S.size = (enc m).length := by rw [hS, strOfNums_size]
  have h := get_any (A ++ S ++ B) A.size w (by rw [ByteArray.size_append, ByteArray.size_append]; unfold maxLen; omega) (by rw [ByteArray.size_append, ByteArray.size_append]; omega)
  have e1 : (A ++ S ++ B).data.toList.drop A.size = bys (enc m) ++ B.data.toList := by
    rw [ByteArray.data_append, ByteArray.data_append, hS, strOfNums_eq]
    simp only [Array.toList_append, List.append_assoc]
    exact List.drop_left' rfl
  have e2 := rd_enc A.size B.data.toList m 0 0 (by omega) (by omega) (by simp; omega)
  rw [e1, e2] at h
  have e3 : rdV (0 + m * 128 ^ 0, A.size + 0 + (enc m).length, 0) = .tuple #[.int .i64 m, .int .i64 ((A.size : Int) + (S.size : Int)), .int .i64 0] := by
    rw [hs]; simp [rdV]
  rw [e3] at h
  exact h

theorem empty_add (S : ByteArray) : (⟨#[]⟩ : ByteArray) ++ S = S := by
  apply ByteArray.ext
  rw [ByteArray.data_append]
  simp
theorem add_empty (S : ByteArray) : S ++ (⟨#[]⟩ : ByteArray) = S := by
  apply ByteArray.ext
  rw [ByteArray.data_append]
  simp
theorem get_back0 (S : ByteArray) (m : Nat) (w : World) (hm : m < 1099511627776) (hS : S = strOfNums (enc m)) :
    Calls Try.prog 14 #[.string S, .int .i64 0] w fun e w' => e = .returned (.tuple #[.int .i64 m, .int .i64 (S.size : Int), .int .i64 0]) ∧ w = w' := by
  have h := get_back ⟨#[]⟩ S ⟨#[]⟩ m w (by decide) (by decide) hm hS
  rw [empty_add, add_empty] at h
  have e0 : (((⟨#[]⟩ : ByteArray).size : Nat) : Int) = 0 := rfl
  rw [e0, Int.zero_add] at h
  exact h

set_option maxRecDepth 100000 in
set_option maxHeartbeats 1000000 in
theorem walk (n : Int) (A B : ByteArray) (w : World) (hA : A.size ≤ 140737488351232) (hB : B.size ≤ 140737488351232) :
    Calls Try.prog 6 #[.int .i64 n, .string A, .string B] w fun e w' => e = .returned (.bool true) ∧ Below w.heap.size w w' := by
  obtain ⟨m, hm1, hm2⟩ : ∃ m : Nat, bits .and .i64 n 1099511627775 = (m : Int) ∧ m < 1099511627776 := ⟨_, and40 n, by omega⟩
  have hl := enc_len6 (n := m) (by omega)
  have hp := enc_pos m
  obtain ⟨S, hS⟩ : ∃ S, S = strOfNums (enc m) := ⟨_, rfl⟩
  have hs : S.size = (enc m).length := by rw [hS, strOfNums_size]
  have hs1 : 1 ≤ S.size := by omega
  have hs6 : S.size ≤ 6 := by omega
  have d6 : decide ((S.size : Int) ≤ 6) = true := by simp; omega
  have hP : ∀ w, Calls Try.prog 8 #[.int .i64 m] w fun e w' => e = .returned (.tuple #[.string S, .int .i64 0]) ∧ Below w.heap.size w w' := fun w => by rw [hS]; exact put_any m (by omega) w
  have HP := Lib.hid hP
  have HS := Lib.hid hS
  clear hP hS hs hl hp
  by_cases hbig : 100 < A.size + B.size
  · have hbig' : (100 : Int) < (A.size : Int) + (B.size : Int) := by omega
    have ha1 : ∀ W, (Op.stringOp .add ⟨#[]⟩ S).run Try.prog W = .ok (.string S) W := fun W => by rw [run_string_add_sum W _ _ (by have : (ByteArray.mk #[]).size = 0 := rfl; omega), empty_add]
    have ha2 : ∀ W, (Op.stringOp .add S ⟨#[]⟩).run Try.prog W = .ok (.string S) W := fun W => by rw [run_string_add_sum W _ _ (by have : (ByteArray.mk #[]).size = 0 := rfl; omega), add_empty]
    go_enter Try.func6, Try.ntmps6
    go_wp2_with fail
    refine (awake_any _).mono ?_
    rintro e w1 ⟨rfl, g1⟩
    go_wp2_with fail
    refine (HP.out _).mono ?_
    rintro e w2 ⟨rfl, g2⟩
    go_wp2_with fail
    refine (get_back0 S m _ hm2 HS.out).mono ?_
    rintro e w3 ⟨rfl, rfl⟩
    go_wp2
    go_ret
    exact ⟨rfl, g1.trans (g2.mono g1.size)⟩
  · have hbig' : ¬ (100 : Int) < (A.size : Int) + (B.size : Int) := by omega
    have ha1 : ∀ W, (Op.stringOp .add A S).run Try.prog W = .ok (.string (A ++ S)) W := fun W => run_string_add_sum W _ _ (by omega)
    have ha2 : ∀ W, (Op.stringOp .add (A ++ S) B).run Try.prog W = .ok (.string (A ++ S ++ B)) W := fun W => run_string_add_sum W _ _ (by rw [ByteArray.size_append]; omega)
    go_enter Try.func6, Try.ntmps6
    go_wp2_with fail
    refine (awake_any _).mono ?_
    rintro e w1 ⟨rfl, g1⟩
    go_wp2_with fail
    refine (HP.out _).mono ?_
    rintro e w2 ⟨rfl, g2⟩
    go_wp2_with fail
    refine (get_back A S B m _ (by omega) (by omega) hm2 HS.out).mono ?_
    rintro e w3 ⟨rfl, rfl⟩
    go_wp2
    go_ret
    exact ⟨rfl, g1.trans (g2.mono g1.size)⟩

set_option maxRecDepth 100000 in
theorem lifted (os : Os) (started : os.Started) (H : Type) (enc : TypeId × Value → H) :
    ReturnsInHanded {} Try.checked os 6 .any (Rows.octetBackSpec.pre6 enc Try.prog Try.f6 Rows.octetBackRow.domain false) (Rows.octetBackSpec.post enc Try.prog Try.f6 false true false false) := by
  refine returnsInHanded_of_change_sized (C := Try.checked) own started (by kernel_rfl) Try.func6
    (ChangeSpec.witness6 (enc := enc) (C := Try.checked) false ⟨#[], #[.int .i64 0, .string ⟨#[]⟩, .string ⟨#[]⟩], []⟩ 8 (by kernel_rfl) (by kernel_rfl) (by kernel_rfl) (by kernel_rfl)) ?_
  intro W base args ds gs before hval0 hW hcnd hsz0 _
  have hval : ∀ (j : Nat) t v, Try.f6.params[j]? = some t → args[j]? = some v → Value.okWide Try.prog W .any base t v := hval0
  have hsz : (DataW.weightsEach Try.prog (Try.f6.params.toList ++ Rows.octetBackSpec.plain.varTypes Try.prog) (ds ++ gs)).all (· ≤ reachBytes) = true := hsz0
  have hW' := hW
  obtain ⟨p, q, hA0, hV, rfl, hfz, hnd⟩ := hW
  have hA : DataW.TrodAll enc Try.prog W 0 (fun _ => true) true Try.f6.params.toList args.toList ds p := hA0
  rw [Try.params6] at hA hval hsz
  obtain ⟨v0, v1, v2, d0, d1, d2, p0, p1, p2, rfl, rfl, rfl, h0, h1, h2⟩ := trodAll_three hA
  obtain ⟨rfl, rfl⟩ := trodVars_none hV
  obtain ⟨a0, rfl, rfl, rfl, w0⟩ := open_int Try.underlying3 (hval 0 3 v0 rfl rfl) h0
  obtain ⟨s1, rfl, rfl, rfl, hs1⟩ := Go.ChangeMaps.open_string Try.underlying9 (hval 1 9 v1 rfl rfl) h1
  obtain ⟨s2, rfl, rfl, rfl, hs2⟩ := Go.ChangeMaps.open_string Try.underlying9 (hval 2 9 v2 rfl rfl) h2
  have z1 := sized_string hsz (j := 1) (t := 9) rfl rfl
  have z2 := sized_string hsz (j := 2) (t := 9) rfl rfl
  clear hA0 hval0 hsz0 hsz
  simp only [List.append_nil] at hW'
  refine (walk a0 s1 s2 W (by simpa [reachBytes] using z1) (by simpa [reachBytes] using z2)).mono fun e W' ⟨he, hb⟩ => ?_
  subst he
  exact ⟨_, rfl, ⟨_, _, _, [], _, [], hW', trodAll_mk1 (shut_bool Try.underlying4 _), trodAll_mk3 (shut_int Try.underlying3 w0) (Go.ChangeMaps.shut_string Try.underlying9 hs1) (Go.ChangeMaps.shut_string Try.underlying9 hs2), rfl, hb.frame _, fun h => by cases h⟩⟩

theorem over : Rows.octetBackRow.holds Try.pinned (OpenSpec.ofChange Rows.octetBackSpec) :=
  OpenClaim.holds_of_wide 6 Try.f6 rfl rfl rfl rfl rfl rfl rfl ⟨rfl, rfl, rfl, rfl, rfl⟩ rfl rfl rfl rfl rfl (by kernel_rfl) Try.func6 (by kernel_rfl)
    (of_decide_eq_true (by kernel_rfl)) (by unfold Func.isWrapper; first | (rw [if_pos (by decide +kernel)]; kernel_rfl) | (rw [if_neg (by decide +kernel)]; exact ⟨rfl, rfl⟩))
    (fun os started H enc _ => lifted os started H enc)

/-- THE STATEMENT -/
theorem proved : Rows.OctetBackSaid :=
  over
#print axioms proved
end Go.Proofs.Ytljkbdlfknlanaa.octetBack
