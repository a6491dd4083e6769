/- The walk of the law TcodeBack. The conditions: what the program's Put and Get answer (GetC, PutC). -/
import Derived.Test.YthnkoamabfaioaaZP4
namespace Go.Proofs.Ythnkoamabfaioaa.tcodeBack
open Go.RowKit

theorem made_sh {T : Tm} (h : okT 3 4 T) : shB T.k T.n T.ls T.ks = true := h.sh (by omega) (by omega)
theorem made_nn {T : Tm} (h : okT 3 4 T) : 0 ≤ T.k ∧ 0 ≤ T.n := by
  unfold okT tOne at h
  simp only [Bool.and_eq_true, decide_eq_true_eq] at h
  rcases tfits_cases h.2.1 with ⟨e, a, _⟩ | ⟨e, a, _⟩ | ⟨e, a, _⟩ | ⟨e, a, _⟩ <;> omega
/-- Get undoes Put, whatever stands behind. -/
theorem back {T : Tm} (h : okT 3 4 T) (more : ByteArray) : ansT (strOfNums (encT T.k T.n T.ls T.ks) ++ more) 0 = .ok T.k.toNat T.n.toNat T.ls T.ks (strOfNums (encT T.k T.n T.ls T.ks)).size (T.ks.size + 1) := by
  unfold ansT
  rw [if_neg (by omega)]
  have := rdT_encT (strOfNums (encT T.k T.n T.ls T.ks) ++ more) T.k T.n T.ls T.ks 0 more.data.toList (made_sh h) (by rw [strOfNums_eq, List.drop_zero]; simp [ByteArray.data_append])
  rw [strOfNums_size]
  simpa using this
/-- What is cut off is no term's bytes. -/
theorem cut {T : Tm} (h : okT 3 4 T) (m : Nat) (hm : m < (strOfNums (encT T.k T.n T.ls T.ks)).size) : ansT ((strOfNums (encT T.k T.n T.ls T.ks)).extract 0 m) 0 = .no 21 := by
  unfold ansT
  rw [if_neg (by omega)]
  rw [strOfNums_size] at hm
  have h30 : okT 3 30 T := h.mono (Int.le_refl _) (by omega)
  have hs := (shB_parts (made_sh h)).1
  have h1 : tAll 5 10 (.cons T.k T.n T.ls T.ks .nil) 0 0 3 ((30 : Nat) : Int) = true := by
    rw [tAll_cons, show bindK 0 0 = 0 by simp [bindK], Int.add_zero]
    unfold okT at h30
    rw [show (((30 : Nat)) : Int) = 30 from rfl, h30]; rfl
  have r := rowsT_cut ((strOfNums (encT T.k T.n T.ls T.ks)).extract 0 m) (.cons T.k T.n T.ls T.ks .nil) 0 0 0 30 0 0 m 3 h1 (by omega) (by omega) (by omega) (by simp only [Ft.size]; omega) (by rw [encTF_one]; exact hm) (by rw [encTF_one, strOfNums_eq, ByteArray.data_extract]; simp [List.extract_eq_take_drop])
  simp only [Ft.len, Nat.zero_add] at r
  have e0 : 0 + (bindK 0 0).toNat = 0 := by simp [bindK]
  show rdT _ 30 0 0 0 = .no 21
  cases hr : rdT ((strOfNums (encT T.k T.n T.ls T.ks)).extract 0 m) 30 0 0 0 with
  | no e => rw [rowsT_no (by rw [e0]; exact hr)] at r; injection r with r; rw [r]
  | ok k' n' ls' ks' q m' => rw [rowsT_ok (by rw [e0]; exact hr)] at r; simp only [rowsT, Ts.prep] at r; cases r

set_option maxRecDepth 100000 in
set_option maxHeartbeats 4000000 in
theorem walk_few (hG : GetC) (hP : PutC) (len cap : Nat) (a : Option Addr) (more : ByteArray) (X : Int) (w : World) (hin : U8In w (· < w.heap.size) len a cap) (hmo : more.size ≤ 100) (hX0 : 0 ≤ X) (hX1 : X < 256) :
    Calls Try.prog 7 #[.slice a len cap, .string more, .int .u8 X] w fun e w' => e = .returned (.bool true) ∧ Below w.heap.size w w' := by
  have d1 : decide (100 < more.size) = false := by simp; omega
  have d2 : decide ((100 : Int) < (more.size : Int)) = false := by simp; omega
  have hz0 : (ByteArray.mk #[]).size = 0 := rfl
  have HIN : Hid (∀ W, Below w.heap.size w W → Calls Try.prog 13 #[.slice a len cap] W (MdOk 3 3 W)) := Lib.hid (fun W h1 => tMade_any len cap a w.heap.size W (hin.below h1) h1.size)
  go_enter Try.func7, Try.ntmps7
  go_wp2_with fail
  refine (awake14_any hG hP _).mono ?_
  rintro e w1 ⟨rfl, hb1⟩
  have HB1 := Lib.hid hb1
  clear hb1
  go_wp2_with fail
  refine (HIN.out _ HB1.out).mono ?_
  rintro e w2 ⟨T, la, lc, ka, kc, rfl, okt, sl2, tl2, hb2⟩
  have hal : Below w2.heap.size w2 (w2.alloc (.cells #[.int .i64 T.k, .int .i64 T.n, .slice la T.ls.len lc, .slice ka T.ks.len kc] 29)) := (Below.refl _ _).alloc (Nat.le_refl _) _
  have T3 := Lib.hid (TmBox.new (show TmIn w2 w2.heap.size T la lc ka kc from ⟨sl2.weak (fun _ h => h.2), tl2.weak (fun _ h => h.2), Nat.le_refl _⟩))
  have HB3 := Lib.hid (Below.step (Below.step HB1.out hb2 (Nat.le_refl _)) hal (Nat.le_refl _))
  have HSH := Lib.hid (made_sh okt)
  have HBACK := Lib.hid (back okt more)
  have HCUT := Lib.hid (fun m hm => cut okt m hm)
  have HLEN := Lib.hid (sh_smT (made_sh okt)).2
  obtain ⟨hk, hn⟩ := made_nn okt
  have HKN := Lib.hid (And.intro (show ((T.k.toNat : Nat) : Int) = T.k by omega) (show ((T.n.toNat : Nat) : Int) = T.n by omega))
  have hzS : (strOfNums (encT T.k T.n T.ls T.ks)).size = (encT T.k T.n T.ls T.ks).length := strOfNums_size _
  have hl1 : 1 ≤ (encT T.k T.n T.ls T.ks).length := by
    have := enc_pos T.k.toNat
    simp only [encT, encTh, List.length_append]; omega
  obtain ⟨S, hS⟩ : ∃ S, strOfNums (encT T.k T.n T.ls T.ks) = S := ⟨_, rfl⟩
  rw [hS] at HBACK HCUT hzS
  have hS1 : 1 ≤ S.size := by omega
  have hS2 : S.size ≤ 610000 := by have := HLEN.out; omega
  have HPU : Hid (∀ (N : Nat) (W : World), TmIn W N T la lc ka kc → Calls Try.prog 14 #[.agg #[.int .i64 T.k, .int .i64 T.n, .slice la T.ls.len lc, .slice ka T.ks.len kc]] W fun e w' => e = .returned (.tuple #[.string S, .int .i64 0]) ∧ Below W.heap.size W w') := Lib.hid (fun N W h => by
    have := hP T.k T.n T.ls T.ks la ka lc kc W.heap.size W (h.1.mono h.2.2) (h.2.1.mono h.2.2) (Nat.le_refl _)
    rwa [tputV_yes HSH.out, hS] at this)
  have HGE : Hid (∀ (W : World), Calls Try.prog 17 #[.string (S ++ more), .int .i64 0] W fun e w' => ∃ ua uc va vc, e = .returned (.tuple #[.agg #[.int .i64 T.k, .int .i64 T.n, .slice ua T.ls.len uc, .slice va T.ks.len vc], .int .i64 S.size, .int .i64 0]) ∧ TmIn w' w'.heap.size T ua uc va vc ∧ Below W.heap.size W w') := Lib.hid (fun W => by
    have := hG (S ++ more) 0 W (by rw [ByteArray.size_append]; unfold maxLen; omega)
    rw [HBACK.out] at this
    refine this.mono ?_
    rintro e w' ⟨hb, ua, uc, va, vc, he, hs, hk⟩
    rw [HKN.out.1, HKN.out.2] at he
    exact ⟨ua, uc, va, vc, he, ⟨hs.weak (fun _ h => h.2), hk.weak (fun _ h => h.2), Nat.le_refl _⟩, hb⟩)
  obtain ⟨m, hm1, hm2⟩ : ∃ m : Nat, X % (S.size : Int) = (m : Int) ∧ m < S.size :=
    ⟨(X % (S.size : Int)).toNat, by have := Int.emod_nonneg X (b := (S.size : Int)) (by omega); omega, by have := Int.emod_nonneg X (b := (S.size : Int)) (by omega); have := Int.emod_lt_of_pos X (b := (S.size : Int)) (by omega); omega⟩
  have HG2 : Hid (∀ (W : World), Calls Try.prog 17 #[.string (S.extract 0 m), .int .i64 0] W fun e w' => e = .returned (.tuple #[.agg #[.int .i64 0, .int .i64 0, .slice none 0 0, .slice none 0 0], .int .i64 0, .int .i64 21]) ∧ Below W.heap.size W w') := Lib.hid (fun W => by
    have := hG (S.extract 0 m) 0 W (by rw [ByteArray.size_extract]; unfold maxLen; omega)
    rw [HCUT.out m hm2] at this
    refine this.mono ?_
    rintro e w' ⟨hb, he⟩
    exact ⟨he, hb⟩)
  have ha := (fun W => run_string_add_sum (P := Try.prog) W S more (by omega))
  have hm3 : (m : Int) ≤ (S.size : Int) := by omega
  have hSp : 0 < (S.size : Int) := by omega
  clear sl2 tl2 hb2 hal okt HSH HBACK HCUT HLEN hk hn HKN hzS hl1 hS HB1 HIN
  go_wp2_with fail
  refine (HPU.out _ _ T3.out.2).mono ?_
  rintro e w4 ⟨rfl, hb4⟩
  have T4 := Lib.hid (T3.out.later hb4)
  have HB4 := Lib.hid (Below.step HB3.out hb4 (Nat.le_refl _))
  clear hb4 T3 HB3 HPU
  go_wp2_with fail
  refine (HGE.out _).mono ?_
  rintro e w5 ⟨ua, uc, va, vc, rfl, t5, hb5⟩
  have hal : Below w5.heap.size w5 (w5.alloc (.cells #[.int .i64 T.k, .int .i64 T.n, .slice ua T.ls.len uc, .slice va T.ks.len vc] 29)) := (Below.refl _ _).alloc (Nat.le_refl _) _
  have T6 := Lib.hid ((T4.out.later hb5).later hal)
  have U6 := Lib.hid (TmBox.new t5)
  have HB6 := Lib.hid (Below.step (Below.step HB4.out hb5 (Nat.le_refl _)) hal (Nat.le_refl _))
  obtain ⟨c0, c1, c2, c3⟩ := T6.out.cells
  clear t5 hb5 hal T4 HB4 HGE
  go_wp2_with fail
  refine (r13same_yes T6.out.2 U6.out.2).mono ?_
  rintro e w7 ⟨rfl, hb7⟩
  have HB7 := Lib.hid (Below.step HB6.out hb7 (Nat.le_refl _))
  clear hb7 c0 c1 c2 c3 T6 U6 HB6
  go_wp2_with fail
  refine (HG2.out _).mono ?_
  rintro e w8 ⟨rfl, hb8⟩
  have HB8 := Lib.hid (Below.step HB7.out hb8 (Nat.le_refl _))
  clear hb8
  go_wp2_with fail
  go_ret
  exact ⟨rfl, HB8.out.alloc (by have := HB8.out.size; omega) _⟩

set_option maxRecDepth 100000 in
set_option maxHeartbeats 4000000 in
theorem walk_many (hG : GetC) (hP : PutC) (len cap : Nat) (a : Option Addr) (more : ByteArray) (X : Int) (w : World) (hin : U8In w (· < w.heap.size) len a cap) (hmo : 100 < more.size) (hX0 : 0 ≤ X) (hX1 : X < 256) :
    Calls Try.prog 7 #[.slice a len cap, .string more, .int .u8 X] w fun e w' => e = .returned (.bool true) ∧ Below w.heap.size w w' := by
  have d1 : decide (100 < more.size) = true := by simp; omega
  have d2 : decide ((100 : Int) < (more.size : Int)) = true := by simp; omega
  have hz0 : (ByteArray.mk #[]).size = 0 := rfl
  have HIN : Hid (∀ W, Below w.heap.size w W → Calls Try.prog 13 #[.slice a len cap] W (MdOk 3 3 W)) := Lib.hid (fun W h1 => tMade_any len cap a w.heap.size W (hin.below h1) h1.size)
  go_enter Try.func7, Try.ntmps7
  go_wp2_with fail
  refine (awake14_any hG hP _).mono ?_
  rintro e w1 ⟨rfl, hb1⟩
  have HB1 := Lib.hid hb1
  clear hb1
  go_wp2_with fail
  refine (HIN.out _ HB1.out).mono ?_
  rintro e w2 ⟨T, la, lc, ka, kc, rfl, okt, sl2, tl2, hb2⟩
  have hal : Below w2.heap.size w2 (w2.alloc (.cells #[.int .i64 T.k, .int .i64 T.n, .slice la T.ls.len lc, .slice ka T.ks.len kc] 29)) := (Below.refl _ _).alloc (Nat.le_refl _) _
  have T3 := Lib.hid (TmBox.new (show TmIn w2 w2.heap.size T la lc ka kc from ⟨sl2.weak (fun _ h => h.2), tl2.weak (fun _ h => h.2), Nat.le_refl _⟩))
  have HB3 := Lib.hid (Below.step (Below.step HB1.out hb2 (Nat.le_refl _)) hal (Nat.le_refl _))
  have HSH := Lib.hid (made_sh okt)
  have HBACK := Lib.hid (back okt ⟨#[]⟩)
  have HCUT := Lib.hid (fun m hm => cut okt m hm)
  have HLEN := Lib.hid (sh_smT (made_sh okt)).2
  obtain ⟨hk, hn⟩ := made_nn okt
  have HKN := Lib.hid (And.intro (show ((T.k.toNat : Nat) : Int) = T.k by omega) (show ((T.n.toNat : Nat) : Int) = T.n by omega))
  have hzS : (strOfNums (encT T.k T.n T.ls T.ks)).size = (encT T.k T.n T.ls T.ks).length := strOfNums_size _
  have hl1 : 1 ≤ (encT T.k T.n T.ls T.ks).length := by
    have := enc_pos T.k.toNat
    simp only [encT, encTh, List.length_append]; omega
  obtain ⟨S, hS⟩ : ∃ S, strOfNums (encT T.k T.n T.ls T.ks) = S := ⟨_, rfl⟩
  rw [hS] at HBACK HCUT hzS
  have hS1 : 1 ≤ S.size := by omega
  have hS2 : S.size ≤ 610000 := by have := HLEN.out; omega
  have HPU : Hid (∀ (N : Nat) (W : World), TmIn W N T la lc ka kc → Calls Try.prog 14 #[.agg #[.int .i64 T.k, .int .i64 T.n, .slice la T.ls.len lc, .slice ka T.ks.len kc]] W fun e w' => e = .returned (.tuple #[.string S, .int .i64 0]) ∧ Below W.heap.size W w') := Lib.hid (fun N W h => by
    have := hP T.k T.n T.ls T.ks la ka lc kc W.heap.size W (h.1.mono h.2.2) (h.2.1.mono h.2.2) (Nat.le_refl _)
    rwa [tputV_yes HSH.out, hS] at this)
  have HGE : Hid (∀ (W : World), Calls Try.prog 17 #[.string (S ++ ⟨#[]⟩), .int .i64 0] W fun e w' => ∃ ua uc va vc, e = .returned (.tuple #[.agg #[.int .i64 T.k, .int .i64 T.n, .slice ua T.ls.len uc, .slice va T.ks.len vc], .int .i64 S.size, .int .i64 0]) ∧ TmIn w' w'.heap.size T ua uc va vc ∧ Below W.heap.size W w') := Lib.hid (fun W => by
    have := hG (S ++ ⟨#[]⟩) 0 W (by rw [ByteArray.size_append]; unfold maxLen; omega)
    rw [HBACK.out] at this
    refine this.mono ?_
    rintro e w' ⟨hb, ua, uc, va, vc, he, hs, hk⟩
    rw [HKN.out.1, HKN.out.2] at he
    exact ⟨ua, uc, va, vc, he, ⟨hs.weak (fun _ h => h.2), hk.weak (fun _ h => h.2), Nat.le_refl _⟩, hb⟩)
  obtain ⟨m, hm1, hm2⟩ : ∃ m : Nat, X % (S.size : Int) = (m : Int) ∧ m < S.size :=
    ⟨(X % (S.size : Int)).toNat, by have := Int.emod_nonneg X (b := (S.size : Int)) (by omega); omega, by have := Int.emod_nonneg X (b := (S.size : Int)) (by omega); have := Int.emod_lt_of_pos X (b := (S.size : Int)) (by omega); omega⟩
  have HG2 : Hid (∀ (W : World), Calls Try.prog 17 #[.string (S.extract 0 m), .int .i64 0] W fun e w' => e = .returned (.tuple #[.agg #[.int .i64 0, .int .i64 0, .slice none 0 0, .slice none 0 0], .int .i64 0, .int .i64 21]) ∧ Below W.heap.size W w') := Lib.hid (fun W => by
    have := hG (S.extract 0 m) 0 W (by rw [ByteArray.size_extract]; unfold maxLen; omega)
    rw [HCUT.out m hm2] at this
    refine this.mono ?_
    rintro e w' ⟨hb, he⟩
    exact ⟨he, hb⟩)
  have ha := (fun W => run_string_add_sum (P := Try.prog) W S ⟨#[]⟩ (by omega))
  have hm3 : (m : Int) ≤ (S.size : Int) := by omega
  have hSp : 0 < (S.size : Int) := by omega
  clear sl2 tl2 hb2 hal okt HSH HBACK HCUT HLEN hk hn HKN hzS hl1 hS HB1 HIN
  go_wp2_with fail
  refine (HPU.out _ _ T3.out.2).mono ?_
  rintro e w4 ⟨rfl, hb4⟩
  have T4 := Lib.hid (T3.out.later hb4)
  have HB4 := Lib.hid (Below.step HB3.out hb4 (Nat.le_refl _))
  clear hb4 T3 HB3 HPU
  go_wp2_with fail
  refine (HGE.out _).mono ?_
  rintro e w5 ⟨ua, uc, va, vc, rfl, t5, hb5⟩
  have hal : Below w5.heap.size w5 (w5.alloc (.cells #[.int .i64 T.k, .int .i64 T.n, .slice ua T.ls.len uc, .slice va T.ks.len vc] 29)) := (Below.refl _ _).alloc (Nat.le_refl _) _
  have T6 := Lib.hid ((T4.out.later hb5).later hal)
  have U6 := Lib.hid (TmBox.new t5)
  have HB6 := Lib.hid (Below.step (Below.step HB4.out hb5 (Nat.le_refl _)) hal (Nat.le_refl _))
  obtain ⟨c0, c1, c2, c3⟩ := T6.out.cells
  clear t5 hb5 hal T4 HB4 HGE
  go_wp2_with fail
  refine (r13same_yes T6.out.2 U6.out.2).mono ?_
  rintro e w7 ⟨rfl, hb7⟩
  have HB7 := Lib.hid (Below.step HB6.out hb7 (Nat.le_refl _))
  clear hb7 c0 c1 c2 c3 T6 U6 HB6
  go_wp2_with fail
  refine (HG2.out _).mono ?_
  rintro e w8 ⟨rfl, hb8⟩
  have HB8 := Lib.hid (Below.step HB7.out hb8 (Nat.le_refl _))
  clear hb8
  go_wp2_with fail
  go_ret
  exact ⟨rfl, HB8.out.alloc (by have := HB8.out.size; omega) _⟩

theorem walk (hG : GetC) (hP : PutC) (len cap : Nat) (a : Option Addr) (more : ByteArray) (X : Int) (w : World) (hin : U8In w (· < w.heap.size) len a cap) (hX0 : 0 ≤ X) (hX1 : X < 256) :
    Calls Try.prog 7 #[.slice a len cap, .string more, .int .u8 X] w fun e w' => e = .returned (.bool true) ∧ Below w.heap.size w w' := by
  by_cases h : more.size ≤ 100
  · exact walk_few hG hP len cap a more X w hin h hX0 hX1
  · exact walk_many hG hP len cap a more X w hin (by omega) hX0 hX1
end Go.Proofs.Ythnkoamabfaioaa.tcodeBack
