/- For every list of bytes, string and byte the law LcodeBack returns true: Get undoes Put, whatever stands behind; what is cut off is no level's bytes. No condition. -/
import Derived.Test.YtcgeipcffhfclaaAwake3
import Derived.Test.YtcgeipcffhfclaaMade
import Derived.Test.YtcgeipcffhfclaaMono
import Derived.Test.YtcgeipcffhfclaaOpen3
import Derived.Carry
namespace Go.Proofs.Ytcgeipcffhfclaa.lcodeBack
open Go.ChangeShapes Go.WideShapes Go.ChangeAt Go.RowKit

theorem own : ownKnob Try.prog.godebug = none := by kernel_rfl

theorem made_right {k n : Int} {F : Fo} (h : LvOk 5 10 5 k n F) : rightB 5 10 k n F = true ∧ F.size + 1 ≤ 100 ∧ rNode 5 10 k n F.len ((12 : Nat) : Int) (rAll 5 10 F (((12 : Nat) : Int) - 1)) = true ∧ 0 ≤ k ∧ 0 ≤ n := by
  have h1 := h.2
  have h2 : rNode 5 10 k n F.len 12 (rAll 5 10 F 11) = true := rNode_mono h.1 (by omega) (fun h => rAll_mono h (by omega))
  have h3 : F.size + 1 ≤ 100 := by omega
  have hc := rNode_cases h2
  refine ⟨?_, h3, h2, by omega, by omega⟩
  unfold rightB
  simp only [Bool.and_eq_true, decide_eq_true_eq]
  exact ⟨by omega, by omega, h2⟩
/-- Get undoes Put, whatever stands behind. -/
theorem back {k n : Int} {F : Fo} (h : LvOk 5 10 5 k n F) (more : ByteArray) : ansL (strOfNums (encL k n F) ++ more) 0 = .ok k.toNat n.toNat F (strOfNums (encL k n F)).size (100 - (F.size + 1)) := by
  obtain ⟨_, h2, h3, _⟩ := made_right h
  unfold ansL
  rw [if_neg (by omega)]
  have := rdL_encL (strOfNums (encL k n F) ++ more) k n F 12 0 100 more.data.toList h3 h2 (by rw [strOfNums_eq, List.drop_zero]; simp [ByteArray.data_append])
  rw [strOfNums_size]
  simpa using this
/-- What is cut off is no level's bytes. -/
theorem cut {k n : Int} {F : Fo} (h : LvOk 5 10 5 k n F) (m : Nat) (hm : m < (strOfNums (encL k n F)).size) : ansL ((strOfNums (encL k n F)).extract 0 m) 0 = .no 21 := by
  obtain ⟨_, h2, h3, _⟩ := made_right h
  unfold ansL
  rw [if_neg (by omega)]
  rw [strOfNums_size] at hm
  exact rdL_cut _ k n F 12 0 100 m h3 h2 hm (by rw [strOfNums_eq, ByteArray.data_extract]; simp [List.extract_eq_take_drop])

set_option maxRecDepth 100000 in
set_option maxHeartbeats 4000000 in
theorem walk_few (len cap : Nat) (a : Option Addr) (more : ByteArray) (X : Int) (w : World) (hin : U8In w (· < w.heap.size) len a cap) (hmo : more.size ≤ 100) (hX0 : 0 ≤ X) (hX1 : X < 256) :
    Calls Try.prog 7 #[.slice a len cap, .string more, .int .u8 X] w fun e w' => e = .returned (.bool true) ∧ Below w.heap.size w w' := by
  have d1 : decide (100 < more.size) = false := by simp; omega
  have d2 : decide ((100 : Int) < (more.size : Int)) = false := by simp; omega
  have HIN : Hid (∀ W, Below w.heap.size w W → w.heap.size ≤ W.heap.size → Calls Try.prog 12 #[.slice a len cap, .int .i64 5, .int .i64 10] W (MadeOk 5 10 W)) := Lib.hid (fun W h1 h2 => made_any 5 10 (by omega) (by omega) (by omega) (by omega) len cap w.heap.size a W (hin.below h1) h2)
  go_enter Try.func7, Try.ntmps7
  go_wp2_with fail
  refine (awake3_any _).mono ?_
  rintro e w1 ⟨rfl, hb1⟩
  have HB1 := Lib.hid hb1
  clear hb1
  go_wp2_with fail
  refine (HIN.out _ HB1.out HB1.out.size).mono ?_
  rintro e w2 ⟨k, n, F, x, c, rfl, hok, hs2, hb2⟩
  obtain ⟨q1, q2, q3, q4, q5⟩ := made_right hok
  have HR := Lib.hid q1
  have HBACK := Lib.hid (back hok more)
  have HCUT := Lib.hid (fun m hm => cut hok m hm)
  have HLEN := Lib.hid (right_len q1)
  have hk : ((k.toNat : Nat) : Int) = k := by omega
  have hn : ((n.toNat : Nat) : Int) = n := by omega
  have HKN := Lib.hid (And.intro hk hn)
  have hzS : (strOfNums (encL k n F)).size = (encL k n F).length := strOfNums_size _
  obtain ⟨S, hS⟩ : ∃ S, strOfNums (encL k n F) = S := ⟨_, rfl⟩
  rw [hS] at HBACK HCUT hzS
  have hS1 : 1 ≤ S.size := by have := HLEN.out; omega
  have hS2 : S.size ≤ 200 := by have := HLEN.out; omega
  have HP : Hid (∀ (W : World), SlIn W (· < w2.heap.size) F x c → w2.heap.size ≤ W.heap.size → Calls Try.prog 13 #[.agg #[.int .i64 k, .int .i64 n, .slice x F.len c]] W fun e w' => e = .returned (.tuple #[.string S, .int .i64 0]) ∧ Below W.heap.size W w') := Lib.hid (fun W h1 h2 => by
    have := lPut_any k n F x c w2.heap.size W h1 h2
    rwa [lputV_yes HR.out, hS] at this)
  have HG : Hid (∀ (W : World), Calls Try.prog 16 #[.string (S ++ more), .int .i64 0] W fun e w' => ∃ x c, e = .returned (.tuple #[.agg #[.int .i64 k, .int .i64 n, .slice x F.len c], .int .i64 S.size, .int .i64 0]) ∧ SlIn w' (fun b => W.heap.size ≤ b ∧ b < w'.heap.size) F x c ∧ Below W.heap.size W w') := Lib.hid (fun W => by
    have := lGet_ans (S ++ more) 0 W (by rw [ByteArray.size_append]; unfold maxLen; omega)
    rw [HBACK.out] at this
    refine this.mono ?_
    rintro e w' ⟨hb, x, c, he, hs⟩
    rw [HKN.out.1, HKN.out.2] at he
    exact ⟨x, c, he, hs, hb⟩)
  obtain ⟨m, hm1, hm2⟩ : ∃ m : Nat, X % (S.size : Int) = (m : Int) ∧ m < S.size :=
    ⟨(X % (S.size : Int)).toNat, by have := Int.emod_nonneg X (b := (S.size : Int)) (by omega); omega, by have := Int.emod_nonneg X (b := (S.size : Int)) (by omega); have := Int.emod_lt_of_pos X (b := (S.size : Int)) (by omega); omega⟩
  have HG2 : Hid (∀ (W : World), Calls Try.prog 16 #[.string (S.extract 0 m), .int .i64 0] W fun e w' => e = .returned (.tuple #[.agg #[.int .i64 0, .int .i64 0, .slice none 0 0], .int .i64 0, .int .i64 21]) ∧ Below W.heap.size W w') := Lib.hid (fun W => by
    have := lGet_ans (S.extract 0 m) 0 W (by rw [ByteArray.size_extract]; unfold maxLen; omega)
    rw [HCUT.out m hm2] at this
    refine this.mono ?_
    rintro e w' ⟨hb, he⟩
    exact ⟨he, hb⟩)
  have ha := (fun W => run_string_add_sum (P := Try.prog) W S more (by omega))
  have HS2 := Lib.hid (And.intro hs2 hb2)
  have hm3 : (m : Int) ≤ (S.size : Int) := by omega
  have hSp : 0 < (S.size : Int) := by omega
  clear hs2 hb2 hok q1 q2 q3 q4 q5 HR HBACK HCUT HLEN hk hn HKN hzS hS
  go_wp2_with fail
  refine (HP.out _ (HS2.out.1.mine ((Below.refl _ _).alloc (Nat.le_refl _) _)) (by simp)).mono ?_
  rintro e w3 ⟨rfl, hb3⟩
  obtain ⟨c0, c1, c2, hz3⟩ := boxed3 hb3
  have HB3 := Lib.hid hb3
  clear hb3
  go_wp2_with fail
  refine (HG.out _).mono ?_
  rintro e w4 ⟨x4, c4, rfl, hs4, hb4⟩
  have b24 : Below (w2.alloc (.cells #[.int .i64 k, .int .i64 n, .slice x F.len c] 28)).heap.size (w2.alloc (.cells #[.int .i64 k, .int .i64 n, .slice x F.len c] 28)) w4 := Below.step HB3.out hb4 (Nat.le_refl _)
  obtain ⟨y0, y1, y2, hz4⟩ := boxed3 b24
  have HS4 : Hid (∀ o, SlIn (w4.alloc o) (· < w4.heap.size) F x c ∧ SlIn (w4.alloc o) (· < w4.heap.size) F x4 c4) := Lib.hid (fun o => ⟨HS2.out.1.two b24, hs4.mine ((Below.refl _ _).alloc (Nat.le_refl _) o)⟩)
  have HB4 : Hid (Below w.heap.size w w4) := Lib.hid (Below.step (Below.step HB1.out HS2.out.2 (Nat.le_refl _)) (((Below.refl _ _).alloc (Nat.le_refl _) _).trans (b24.mono (by simp))) (Nat.le_refl _))
  clear hs4 hb4 b24 c0 c1 c2
  go_wp2_with fail
  refine (rSame_yes F k n x x4 c c4 w4.heap.size _ (HS4.out _).1 (HS4.out _).2 (by simp)).mono ?_
  rintro e w5 ⟨rfl, hb5⟩
  have HB5 : Hid (Below w.heap.size w w5) := Lib.hid (Below.step (HB4.out.alloc (by have := HB4.out.size; omega) _) hb5 (Nat.le_refl _))
  clear hb5 y0 y1 y2
  go_wp2_with fail
  refine (HG2.out _).mono ?_
  rintro e w6 ⟨rfl, hb6⟩
  have HB6 : Hid (Below w.heap.size w w6) := Lib.hid (Below.step HB5.out hb6 (Nat.le_refl _))
  clear hb6
  go_wp2_with fail
  go_ret
  exact ⟨rfl, HB6.out.alloc (by have := HB6.out.size; omega) _⟩

set_option maxRecDepth 100000 in
set_option maxHeartbeats 4000000 in
theorem walk_many (len cap : Nat) (a : Option Addr) (more : ByteArray) (X : Int) (w : World) (hin : U8In w (· < w.heap.size) len a cap) (hmo : 100 < more.size) (hX0 : 0 ≤ X) (hX1 : X < 256) :
    Calls Try.prog 7 #[.slice a len cap, .string more, .int .u8 X] w fun e w' => e = .returned (.bool true) ∧ Below w.heap.size w w' := by
  have d1 : decide (100 < more.size) = true := by simp; omega
  have d2 : decide ((100 : Int) < (more.size : Int)) = true := by simp; omega
  have HIN : Hid (∀ W, Below w.heap.size w W → w.heap.size ≤ W.heap.size → Calls Try.prog 12 #[.slice a len cap, .int .i64 5, .int .i64 10] W (MadeOk 5 10 W)) := Lib.hid (fun W h1 h2 => made_any 5 10 (by omega) (by omega) (by omega) (by omega) len cap w.heap.size a W (hin.below h1) h2)
  go_enter Try.func7, Try.ntmps7
  go_wp2_with fail
  refine (awake3_any _).mono ?_
  rintro e w1 ⟨rfl, hb1⟩
  have HB1 := Lib.hid hb1
  clear hb1
  go_wp2_with fail
  refine (HIN.out _ HB1.out HB1.out.size).mono ?_
  rintro e w2 ⟨k, n, F, x, c, rfl, hok, hs2, hb2⟩
  obtain ⟨q1, q2, q3, q4, q5⟩ := made_right hok
  have HR := Lib.hid q1
  have HBACK := Lib.hid (back hok ⟨#[]⟩)
  have HCUT := Lib.hid (fun m hm => cut hok m hm)
  have HLEN := Lib.hid (right_len q1)
  have hk : ((k.toNat : Nat) : Int) = k := by omega
  have hn : ((n.toNat : Nat) : Int) = n := by omega
  have HKN := Lib.hid (And.intro hk hn)
  have hzS : (strOfNums (encL k n F)).size = (encL k n F).length := strOfNums_size _
  obtain ⟨S, hS⟩ : ∃ S, strOfNums (encL k n F) = S := ⟨_, rfl⟩
  rw [hS] at HBACK HCUT hzS
  have hS1 : 1 ≤ S.size := by have := HLEN.out; omega
  have hS2 : S.size ≤ 200 := by have := HLEN.out; omega
  have HP : Hid (∀ (W : World), SlIn W (· < w2.heap.size) F x c → w2.heap.size ≤ W.heap.size → Calls Try.prog 13 #[.agg #[.int .i64 k, .int .i64 n, .slice x F.len c]] W fun e w' => e = .returned (.tuple #[.string S, .int .i64 0]) ∧ Below W.heap.size W w') := Lib.hid (fun W h1 h2 => by
    have := lPut_any k n F x c w2.heap.size W h1 h2
    rwa [lputV_yes HR.out, hS] at this)
  have HG : Hid (∀ (W : World), Calls Try.prog 16 #[.string (S ++ ⟨#[]⟩), .int .i64 0] W fun e w' => ∃ x c, e = .returned (.tuple #[.agg #[.int .i64 k, .int .i64 n, .slice x F.len c], .int .i64 S.size, .int .i64 0]) ∧ SlIn w' (fun b => W.heap.size ≤ b ∧ b < w'.heap.size) F x c ∧ Below W.heap.size W w') := Lib.hid (fun W => by
    have := lGet_ans (S ++ ⟨#[]⟩) 0 W (by have : (ByteArray.mk #[]).size = 0 := rfl; rw [ByteArray.size_append]; unfold maxLen; omega)
    rw [HBACK.out] at this
    refine this.mono ?_
    rintro e w' ⟨hb, x, c, he, hs⟩
    rw [HKN.out.1, HKN.out.2] at he
    exact ⟨x, c, he, hs, hb⟩)
  obtain ⟨m, hm1, hm2⟩ : ∃ m : Nat, X % (S.size : Int) = (m : Int) ∧ m < S.size :=
    ⟨(X % (S.size : Int)).toNat, by have := Int.emod_nonneg X (b := (S.size : Int)) (by omega); omega, by have := Int.emod_nonneg X (b := (S.size : Int)) (by omega); have := Int.emod_lt_of_pos X (b := (S.size : Int)) (by omega); omega⟩
  have HG2 : Hid (∀ (W : World), Calls Try.prog 16 #[.string (S.extract 0 m), .int .i64 0] W fun e w' => e = .returned (.tuple #[.agg #[.int .i64 0, .int .i64 0, .slice none 0 0], .int .i64 0, .int .i64 21]) ∧ Below W.heap.size W w') := Lib.hid (fun W => by
    have := lGet_ans (S.extract 0 m) 0 W (by rw [ByteArray.size_extract]; unfold maxLen; omega)
    rw [HCUT.out m hm2] at this
    refine this.mono ?_
    rintro e w' ⟨hb, he⟩
    exact ⟨he, hb⟩)
  have ha := (fun W => run_string_add_sum (P := Try.prog) W S ⟨#[]⟩ (by have : (ByteArray.mk #[]).size = 0 := rfl; omega))
  have HS2 := Lib.hid (And.intro hs2 hb2)
  have hm3 : (m : Int) ≤ (S.size : Int) := by omega
  have hSp : 0 < (S.size : Int) := by omega
  clear hs2 hb2 hok q1 q2 q3 q4 q5 HR HBACK HCUT HLEN hk hn HKN hzS hS
  go_wp2_with fail
  refine (HP.out _ (HS2.out.1.mine ((Below.refl _ _).alloc (Nat.le_refl _) _)) (by simp)).mono ?_
  rintro e w3 ⟨rfl, hb3⟩
  obtain ⟨c0, c1, c2, hz3⟩ := boxed3 hb3
  have HB3 := Lib.hid hb3
  clear hb3
  go_wp2_with fail
  refine (HG.out _).mono ?_
  rintro e w4 ⟨x4, c4, rfl, hs4, hb4⟩
  have b24 : Below (w2.alloc (.cells #[.int .i64 k, .int .i64 n, .slice x F.len c] 28)).heap.size (w2.alloc (.cells #[.int .i64 k, .int .i64 n, .slice x F.len c] 28)) w4 := Below.step HB3.out hb4 (Nat.le_refl _)
  obtain ⟨y0, y1, y2, hz4⟩ := boxed3 b24
  have HS4 : Hid (∀ o, SlIn (w4.alloc o) (· < w4.heap.size) F x c ∧ SlIn (w4.alloc o) (· < w4.heap.size) F x4 c4) := Lib.hid (fun o => ⟨HS2.out.1.two b24, hs4.mine ((Below.refl _ _).alloc (Nat.le_refl _) o)⟩)
  have HB4 : Hid (Below w.heap.size w w4) := Lib.hid (Below.step (Below.step HB1.out HS2.out.2 (Nat.le_refl _)) (((Below.refl _ _).alloc (Nat.le_refl _) _).trans (b24.mono (by simp))) (Nat.le_refl _))
  clear hs4 hb4 b24 c0 c1 c2
  go_wp2_with fail
  refine (rSame_yes F k n x x4 c c4 w4.heap.size _ (HS4.out _).1 (HS4.out _).2 (by simp)).mono ?_
  rintro e w5 ⟨rfl, hb5⟩
  have HB5 : Hid (Below w.heap.size w w5) := Lib.hid (Below.step (HB4.out.alloc (by have := HB4.out.size; omega) _) hb5 (Nat.le_refl _))
  clear hb5 y0 y1 y2
  go_wp2_with fail
  refine (HG2.out _).mono ?_
  rintro e w6 ⟨rfl, hb6⟩
  have HB6 : Hid (Below w.heap.size w w6) := Lib.hid (Below.step HB5.out hb6 (Nat.le_refl _))
  clear hb6
  go_wp2_with fail
  go_ret
  exact ⟨rfl, HB6.out.alloc (by have := HB6.out.size; omega) _⟩

set_option maxRecDepth 100000 in
theorem lifted (os : Os) (started : os.Started) (H : Type) (enc : TypeId × Value → H) :
    ReturnsInHanded {} Try.checked os 7 .any (Rows.lcodeBackSpec.pre6 enc Try.prog Try.f7 Rows.lcodeBackRow.domain false) (Rows.lcodeBackSpec.post enc Try.prog Try.f7 false true false false) := by
  refine returnsInHanded_of_change (C := Try.checked) own started (by kernel_rfl) Try.func7
    (ChangeSpec.witness6 (enc := enc) (C := Try.checked) false ⟨#[], #[.slice none 0 0, .string ⟨#[]⟩, .int .u8 0], []⟩ 8 (by kernel_rfl) (by kernel_rfl) (by kernel_rfl) (by kernel_rfl)) ?_
  intro W base args ds gs before hval0 hW hcnd _
  have hval : ∀ (j : Nat) t v, Try.f7.params[j]? = some t → args[j]? = some v → Value.okWide Try.prog W .any base t v := hval0
  have hW' := hW
  obtain ⟨p, q, hA0, hV, rfl, hfz, hnd⟩ := hW
  have hA : DataW.TrodAll enc Try.prog W 0 (fun _ => true) true Try.f7.params.toList args.toList ds p := hA0
  rw [Try.params7] at hA hval
  obtain ⟨v0, vs0, d0, ds0, p0, q0, hargs, rfl, rfl, h0, hr0⟩ := trodAll_cons hA
  obtain ⟨v1, vs1, d1, ds1, p1, q1, rfl, rfl, rfl, h1, hr1⟩ := trodAll_cons hr0
  obtain ⟨v2, vs2, d2, ds2, p2, q2, rfl, rfl, rfl, h2, hr2⟩ := trodAll_cons hr1
  obtain ⟨rfl, rfl, rfl⟩ := trodAll_nil hr2
  obtain rfl : args = #[v0, v1, v2] := by cases args; simp_all
  obtain ⟨rfl, rfl⟩ := trodVars_none hV
  obtain ⟨n1, a1, c1, rfl, hs0⟩ := arg_bytes (hval 0 24 v0 rfl rfl) h0
  obtain ⟨s, rfl, rfl, rfl, hs⟩ := Go.ChangeMaps.open_string Try.underlying9 (hval 1 9 v1 rfl rfl) h1
  obtain ⟨X, rfl, rfl, rfl, w2⟩ := open_int Try.underlying5 (hval 2 5 v2 rfl rfl) h2
  have hX := u8_range w2
  have hlt := hW'.lt
  have key : Calls Try.prog 7 #[.slice a1 n1 c1, .string s, .int .u8 X] W fun e w' => e = .returned (.bool true) ∧ Below W.heap.size W w' := by
    by_cases hm : s.size ≤ 100
    · exact walk_few n1 c1 a1 s X W hs0 hm hX.1 hX.2
    · exact walk_many n1 c1 a1 s X W hs0 (by omega) hX.1 hX.2
  refine key.mono fun e W' ⟨he, hb⟩ => ?_
  subst he
  have t0 := Below.trod laidOut (by kernel_rfl) (of_decide_eq_true (by kernel_rfl)) h0 hb (fun x hx => hlt x (by simp [hx]))
  exact ⟨_, rfl, ⟨_, _, _, [], _, [], hW', trodAll_mk1 (shut_bool Try.underlying4 _), trodAll_mk3 t0 (Go.ChangeMaps.shut_string Try.underlying9 hs) (shut_int Try.underlying5 w2), rfl, hb.frame _, fun h => by cases h⟩⟩

theorem over : Rows.lcodeBackRow.holds Try.pinned (OpenSpec.ofChange Rows.lcodeBackSpec) :=
  OpenClaim.holds_of_wide 7 Try.f7 rfl rfl rfl rfl rfl rfl rfl ⟨rfl, rfl, rfl, rfl, rfl⟩ rfl rfl rfl rfl rfl (by kernel_rfl) Try.func7 (by kernel_rfl)
    (of_decide_eq_true (by kernel_rfl)) (by unfold Func.isWrapper; first | (rw [if_pos (by decide +kernel)]; kernel_rfl) | (rw [if_neg (by decide +kernel)]; exact ⟨rfl, rfl⟩))
    (fun os started H enc _ => lifted os started H enc)

/-- THE STATEMENT -/
theorem proved : Rows.LcodeBackSaid :=
  over
#print axioms proved
end Go.Proofs.Ytcgeipcffhfclaa.lcodeBack
