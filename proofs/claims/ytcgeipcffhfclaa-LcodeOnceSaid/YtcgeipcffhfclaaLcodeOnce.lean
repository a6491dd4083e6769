/- For every string, list of bytes and flag the law LcodeOnce returns true: where Get reads a level, Put writes the very bytes that stand there; else Get refuses. No condition. -/
import Derived.Test.YtcgeipcffhfclaaAwake3
import Derived.Test.YtcgeipcffhfclaaOpen3
import Derived.Deep.LoopGhost
import Derived.Deep.DeepCutAuto
import Derived.Carry
namespace Go.Proofs.Ytcgeipcffhfclaa.lcodeOnce
open Go.ChangeShapes Go.WideShapes Go.ChangeAt Go.RowKit

theorem own : ownKnob Try.prog.godebug = none := by kernel_rfl

/-- What Get tells from the beginning on, in its two cases. -/
theorem once (s : ByteArray) : (∃ er, er ≠ 0 ∧ ansL s 0 = .no er) ∨ ∃ (k n : Nat) (F : Fo) (q l : Nat), ansL s 0 = .ok k n F q l ∧ rightB 5 10 k n F = true ∧ 1 ≤ q ∧ q ≤ s.size ∧ s.extract 0 q = strOfNums (encL k n F) := by
  have e : ansL s 0 = rdL s 12 0 100 := by unfold ansL; rw [if_neg (by omega)]; rfl
  rw [e]
  have ho := rdL_once s 12 0 100 (Nat.zero_le _)
  cases h : rdL s 12 0 100 with
  | no er => exact .inl ⟨er, rdL_err s 12 0 100 er h, rfl⟩
  | ok k n F q l =>
    rw [h] at ho
    obtain ⟨h1, h2, ⟨h3, h4, h5⟩, h6⟩ := ho
    refine .inr ⟨k, n, F, q, l, rfl, ?_, by omega, h4, ?_⟩
    · unfold rightB
      simp only [Bool.and_eq_true, decide_eq_true_eq]
      exact ⟨by omega, by omega, h1⟩
    · apply ByteArray.ext
      rw [strOfNums_eq, ByteArray.data_extract, ← Array.toList_inj, Array.toList_extract, ← h5]

theorem ret_eq {a b : ByteArray} (h : a = b) : Ending.returned (.bool (a.toList == b.toList)) = .returned (.bool true) := by rw [h]; simp

set_option maxRecDepth 100000 in
set_option maxHeartbeats 4000000 in
theorem walk_plain (s : ByteArray) (len cap : Nat) (a : Option Addr) (w : World) (hs : s.size ≤ 300) :
    Calls Try.prog 8 #[.string s, .slice a len cap, .bool false] w fun e w' => e = .returned (.bool true) ∧ Below w.heap.size w w' := by
  have d1 : decide (300 < s.size) = false := by simp; omega
  have d2 : decide ((300 : Int) < (s.size : Int)) = false := by simp; omega
  have HM : Hid (s.size ≤ maxLen) := Lib.hid (by unfold maxLen; omega)
  rcases once s with ⟨er, her, hr⟩ | ⟨k, n, F, q, l, hr, hright, hq1, hq2, hx⟩
  · have HG : Hid (∀ (W : World), Calls Try.prog 16 #[.string s, .int .i64 0] W fun e w' => e = .returned (.tuple #[.agg #[.int .i64 0, .int .i64 0, .slice none 0 0], .int .i64 0, .int .i64 er]) ∧ Below W.heap.size W w') := Lib.hid (fun W => by
      have := lGet_ans s 0 W HM.out
      rw [hr] at this
      refine this.mono ?_
      rintro e w' ⟨hb, he⟩
      exact ⟨he, hb⟩)
    have dne : ((er : Int) != 0) = true := by rw [bne_iff_ne]; omega
    clear hr her
    go_enter Try.func8, Try.ntmps8
    go_wp2_with fail
    refine (awake3_any _).mono ?_
    rintro e w1 ⟨rfl, hb1⟩
    have HB1 := Lib.hid hb1
    clear hb1
    go_wp2_with fail
    refine (HG.out _).mono ?_
    rintro e w2 ⟨rfl, hb2⟩
    have HB2 := Lib.hid (Below.step HB1.out hb2 (Nat.le_refl _))
    clear hb2
    go_wp2_with fail
    go_ret
    exact ⟨rfl, HB2.out.alloc (by have := HB2.out.size; omega) _⟩
  · have HG : Hid (∀ (W : World), Calls Try.prog 16 #[.string s, .int .i64 0] W fun e w' => ∃ x c, e = .returned (.tuple #[.agg #[.int .i64 k, .int .i64 n, .slice x F.len c], .int .i64 q, .int .i64 0]) ∧ SlIn w' (fun b => W.heap.size ≤ b ∧ b < w'.heap.size) F x c ∧ Below W.heap.size W w') := Lib.hid (fun W => by
      have := lGet_ans s 0 W HM.out
      rw [hr] at this
      refine this.mono ?_
      rintro e w' ⟨hb, x, c, he, hs⟩
      exact ⟨x, c, he, hs, hb⟩)
    have HX := Lib.hid hx
    obtain ⟨S, hS⟩ : ∃ S, strOfNums (encL k n F) = S := ⟨_, rfl⟩
    have HP : Hid (∀ (W : World) (x : Option Addr) (c B : Nat), SlIn W (· < B) F x c → B ≤ W.heap.size → Calls Try.prog 13 #[.agg #[.int .i64 k, .int .i64 n, .slice x F.len c]] W fun e w' => e = .returned (.tuple #[.string S, .int .i64 0]) ∧ Below W.heap.size W w') := Lib.hid (fun W x c B h1 h2 => by
      have := lPut_any k n F x c B W h1 h2
      rwa [lputV_yes hright, hS] at this)
    rw [hS] at HX
    have hq1' : (1 : Int) ≤ (q : Int) := by omega
    have hq2' : (q : Int) ≤ (s.size : Int) := by omega
    have dq1 : decide (1 ≤ q) = true := by simpa using hq1
    have dq2 : decide (q ≤ s.size) = true := by simpa using hq2
    clear hr hx hS hright
    go_enter Try.func8, Try.ntmps8
    go_wp2_with fail
    refine (awake3_any _).mono ?_
    rintro e w1 ⟨rfl, hb1⟩
    have HB1 := Lib.hid hb1
    clear hb1
    go_wp2_with fail
    refine (HG.out _).mono ?_
    rintro e w2 ⟨x, c, rfl, hs2, hb2⟩
    have HB2 := Lib.hid (Below.step HB1.out hb2 (Nat.le_refl _))
    have HS2 : Hid (∀ o, SlIn (w2.alloc o) (· < w2.heap.size) F x c) := Lib.hid (fun o => hs2.mine ((Below.refl _ _).alloc (Nat.le_refl _) o))
    clear hb2 hs2
    go_wp2_with fail
    refine (HP.out _ _ _ w2.heap.size (HS2.out _) (by simp)).mono ?_
    rintro e w3 ⟨rfl, hb3⟩
    have HB3 := Lib.hid (Below.step (HB2.out.alloc HB2.out.size _) hb3 (Nat.le_refl _))
    clear hb3
    go_wp2_with fail
    go_ret
    exact ⟨ret_eq HX.out, HB3.out⟩

set_option maxRecDepth 100000 in
set_option maxHeartbeats 4000000 in
theorem walk_small (s : ByteArray) (len cap : Nat) (a : Option Addr) (w : World) (hin : U8In w (· < w.heap.size) len a cap) :
    Calls Try.prog 8 #[.string s, .slice a len cap, .bool true] w fun e w' => e = .returned (.bool true) ∧ Below w.heap.size w w' := by
  have hm : len ≤ 9223372036854775807 := by have h1 := hin.1; have h2 := hin.2.1; unfold maxLen at h2; omega
  go_enter Try.func8, Try.ntmps8
  go_wp2_with fail
  refine (awake3_any _).mono ?_
  rintro e w1 ⟨rfl, hb1⟩
  have HB1 := Lib.hid hb1
  clear hb1
  go_wp2_with fail
  go_loopw [0, 8] (fun st i wr => ∃ (j : Nat) (pre : List Int), j ≤ 30 ∧ j ≤ len ∧ i = .int .i64 j ∧ st = .string (strOfNums pre) ∧ pre.length = j ∧ Below w.heap.size w wr) (fun _ i _ => 30 - (intOf i).toNat)
  case atStart => exact ⟨0, [], by omega, by omega, rfl, rfl, rfl, HB1.out⟩
  case round =>
    obtain ⟨j, pre, hj, hjl, rfl, rfl, hpl, hb⟩ := hrel
    clear HB1
    by_cases hlt : j < len ∧ j < 30
    · obtain ⟨hl1, hl2⟩ := hlt
      have hl2' : (j : Int) < 30 := by omega
      obtain ⟨b, off, x, rfl, hbl, hx1, hx2, hc0⟩ := hin.at hl1
      have hc := (hb.cell (p := ⟨b, off + j, none⟩) hbl).trans hc0
      have HP := Lib.hid hpl
      clear hpl hc0
      have hc1 := conv1 (1 + x % 6) wr
      have ha := add_nums pre [1 + x % 6] (by have := HP.out; omega) (by simp)
      have x6 : x % 6 < 6 := by omega
      have x60 : 0 ≤ x % 6 := by omega
      go_wp2
      go_roundw
      case rel => exact ⟨j + 1, pre ++ [1 + x % 6], by omega, by omega, by go_num, rfl, by simp [HP.out], hb.alloc hb.size _⟩
      case measure => simp [intOf]; omega
    · have hS : (strOfNums pre).size ≤ 30 := by rw [strOfNums_size]; omega
      generalize strOfNums pre = T at hS ⊢
      clear hpl
      by_cases hl1 : j < len
      · have hl2 : ¬ (j : Int) < 30 := by omega
        clear hlt
        have HM : Hid (T.size ≤ maxLen) := Lib.hid (by unfold maxLen; omega)
        have HB1 := Lib.hid hb
        rcases once T with ⟨er, her, hr⟩ | ⟨k, n, F, q, l, hr, hright, hq1, hq2, hx⟩
        · have HG : Hid (∀ (W : World), Calls Try.prog 16 #[.string T, .int .i64 0] W fun e w' => e = .returned (.tuple #[.agg #[.int .i64 0, .int .i64 0, .slice none 0 0], .int .i64 0, .int .i64 er]) ∧ Below W.heap.size W w') := Lib.hid (fun W => by
            have := lGet_ans T 0 W HM.out
            rw [hr] at this
            refine this.mono ?_
            rintro e w' ⟨hb, he⟩
            exact ⟨he, hb⟩)
          have dne : ((er : Int) != 0) = true := by rw [bne_iff_ne]; omega
          clear hr her
          go_wp2_with fail
          refine (HG.out _).mono ?_
          rintro e w2 ⟨rfl, hb2⟩
          have HB2 := Lib.hid (Below.step HB1.out hb2 (Nat.le_refl _))
          clear hb2
          go_wp2_with fail
          go_ret
          exact ⟨rfl, HB2.out.alloc (by have := HB2.out.size; omega) _⟩
        · have HG : Hid (∀ (W : World), Calls Try.prog 16 #[.string T, .int .i64 0] W fun e w' => ∃ x c, e = .returned (.tuple #[.agg #[.int .i64 k, .int .i64 n, .slice x F.len c], .int .i64 q, .int .i64 0]) ∧ SlIn w' (fun b => W.heap.size ≤ b ∧ b < w'.heap.size) F x c ∧ Below W.heap.size W w') := Lib.hid (fun W => by
            have := lGet_ans T 0 W HM.out
            rw [hr] at this
            refine this.mono ?_
            rintro e w' ⟨hb, x, c, he, hs⟩
            exact ⟨x, c, he, hs, hb⟩)
          have HX := Lib.hid hx
          obtain ⟨S, hS⟩ : ∃ S, strOfNums (encL k n F) = S := ⟨_, rfl⟩
          have HP : Hid (∀ (W : World) (x : Option Addr) (c B : Nat), SlIn W (· < B) F x c → B ≤ W.heap.size → Calls Try.prog 13 #[.agg #[.int .i64 k, .int .i64 n, .slice x F.len c]] W fun e w' => e = .returned (.tuple #[.string S, .int .i64 0]) ∧ Below W.heap.size W w') := Lib.hid (fun W x c B h1 h2 => by
            have := lPut_any k n F x c B W h1 h2
            rwa [lputV_yes hright, hS] at this)
          rw [hS] at HX
          have hq1' : (1 : Int) ≤ (q : Int) := by omega
          have hq2' : (q : Int) ≤ (T.size : Int) := by omega
          have dq1 : decide (1 ≤ q) = true := by simpa using hq1
          have dq2 : decide (q ≤ T.size) = true := by simpa using hq2
          clear hr hx hS hright
          go_wp2_with fail
          refine (HG.out _).mono ?_
          rintro e w2 ⟨x, c, rfl, hs2, hb2⟩
          have HB2 := Lib.hid (Below.step HB1.out hb2 (Nat.le_refl _))
          have HS2 : Hid (∀ o, SlIn (w2.alloc o) (· < w2.heap.size) F x c) := Lib.hid (fun o => hs2.mine ((Below.refl _ _).alloc (Nat.le_refl _) o))
          clear hb2 hs2
          go_wp2_with fail
          refine (HP.out _ _ _ w2.heap.size (HS2.out _) (by simp)).mono ?_
          rintro e w3 ⟨rfl, hb3⟩
          have HB3 := Lib.hid (Below.step (HB2.out.alloc HB2.out.size _) hb3 (Nat.le_refl _))
          clear hb3
          go_wp2_with fail
          go_ret
          exact ⟨ret_eq HX.out, HB3.out⟩
      · clear hlt
        have HM : Hid (T.size ≤ maxLen) := Lib.hid (by unfold maxLen; omega)
        have HB1 := Lib.hid hb
        rcases once T with ⟨er, her, hr⟩ | ⟨k, n, F, q, l, hr, hright, hq1, hq2, hx⟩
        · have HG : Hid (∀ (W : World), Calls Try.prog 16 #[.string T, .int .i64 0] W fun e w' => e = .returned (.tuple #[.agg #[.int .i64 0, .int .i64 0, .slice none 0 0], .int .i64 0, .int .i64 er]) ∧ Below W.heap.size W w') := Lib.hid (fun W => by
            have := lGet_ans T 0 W HM.out
            rw [hr] at this
            refine this.mono ?_
            rintro e w' ⟨hb, he⟩
            exact ⟨he, hb⟩)
          have dne : ((er : Int) != 0) = true := by rw [bne_iff_ne]; omega
          clear hr her
          go_wp2_with fail
          refine (HG.out _).mono ?_
          rintro e w2 ⟨rfl, hb2⟩
          have HB2 := Lib.hid (Below.step HB1.out hb2 (Nat.le_refl _))
          clear hb2
          go_wp2_with fail
          go_ret
          exact ⟨rfl, HB2.out.alloc (by have := HB2.out.size; omega) _⟩
        · have HG : Hid (∀ (W : World), Calls Try.prog 16 #[.string T, .int .i64 0] W fun e w' => ∃ x c, e = .returned (.tuple #[.agg #[.int .i64 k, .int .i64 n, .slice x F.len c], .int .i64 q, .int .i64 0]) ∧ SlIn w' (fun b => W.heap.size ≤ b ∧ b < w'.heap.size) F x c ∧ Below W.heap.size W w') := Lib.hid (fun W => by
            have := lGet_ans T 0 W HM.out
            rw [hr] at this
            refine this.mono ?_
            rintro e w' ⟨hb, x, c, he, hs⟩
            exact ⟨x, c, he, hs, hb⟩)
          have HX := Lib.hid hx
          obtain ⟨S, hS⟩ : ∃ S, strOfNums (encL k n F) = S := ⟨_, rfl⟩
          have HP : Hid (∀ (W : World) (x : Option Addr) (c B : Nat), SlIn W (· < B) F x c → B ≤ W.heap.size → Calls Try.prog 13 #[.agg #[.int .i64 k, .int .i64 n, .slice x F.len c]] W fun e w' => e = .returned (.tuple #[.string S, .int .i64 0]) ∧ Below W.heap.size W w') := Lib.hid (fun W x c B h1 h2 => by
            have := lPut_any k n F x c B W h1 h2
            rwa [lputV_yes hright, hS] at this)
          rw [hS] at HX
          have hq1' : (1 : Int) ≤ (q : Int) := by omega
          have hq2' : (q : Int) ≤ (T.size : Int) := by omega
          have dq1 : decide (1 ≤ q) = true := by simpa using hq1
          have dq2 : decide (q ≤ T.size) = true := by simpa using hq2
          clear hr hx hS hright
          go_wp2_with fail
          refine (HG.out _).mono ?_
          rintro e w2 ⟨x, c, rfl, hs2, hb2⟩
          have HB2 := Lib.hid (Below.step HB1.out hb2 (Nat.le_refl _))
          have HS2 : Hid (∀ o, SlIn (w2.alloc o) (· < w2.heap.size) F x c) := Lib.hid (fun o => hs2.mine ((Below.refl _ _).alloc (Nat.le_refl _) o))
          clear hb2 hs2
          go_wp2_with fail
          refine (HP.out _ _ _ w2.heap.size (HS2.out _) (by simp)).mono ?_
          rintro e w3 ⟨rfl, hb3⟩
          have HB3 := Lib.hid (Below.step (HB2.out.alloc HB2.out.size _) hb3 (Nat.le_refl _))
          clear hb3
          go_wp2_with fail
          go_ret
          exact ⟨ret_eq HX.out, HB3.out⟩

set_option maxRecDepth 100000 in
set_option maxHeartbeats 4000000 in
theorem walk_long (s : ByteArray) (len cap : Nat) (a : Option Addr) (w : World) (hin : U8In w (· < w.heap.size) len a cap) (hs : 300 < s.size) (hs2 : s.size ≤ 9223372036854775807) :
    Calls Try.prog 8 #[.string s, .slice a len cap, .bool false] w fun e w' => e = .returned (.bool true) ∧ Below w.heap.size w w' := by
  have hm : len ≤ 9223372036854775807 := by have h1 := hin.1; have h2 := hin.2.1; unfold maxLen at h2; omega
  have d1 : decide (300 < s.size) = true := by simp; omega
  have d2 : decide ((300 : Int) < (s.size : Int)) = true := by simp; omega
  go_enter Try.func8, Try.ntmps8
  go_wp2_with fail
  refine (awake3_any _).mono ?_
  rintro e w1 ⟨rfl, hb1⟩
  have HB1 := Lib.hid hb1
  clear hb1
  go_wp2_with fail
  go_loopw [0, 8] (fun st i wr => ∃ (j : Nat) (pre : List Int), j ≤ 30 ∧ j ≤ len ∧ i = .int .i64 j ∧ st = .string (strOfNums pre) ∧ pre.length = j ∧ Below w.heap.size w wr) (fun _ i _ => 30 - (intOf i).toNat)
  case atStart => exact ⟨0, [], by omega, by omega, rfl, rfl, rfl, HB1.out⟩
  case round =>
    obtain ⟨j, pre, hj, hjl, rfl, rfl, hpl, hb⟩ := hrel
    clear HB1
    by_cases hlt : j < len ∧ j < 30
    · obtain ⟨hl1, hl2⟩ := hlt
      have hl2' : (j : Int) < 30 := by omega
      obtain ⟨b, off, x, rfl, hbl, hx1, hx2, hc0⟩ := hin.at hl1
      have hc := (hb.cell (p := ⟨b, off + j, none⟩) hbl).trans hc0
      have HP := Lib.hid hpl
      clear hpl hc0
      have hc1 := conv1 (1 + x % 6) wr
      have ha := add_nums pre [1 + x % 6] (by have := HP.out; omega) (by simp)
      have x6 : x % 6 < 6 := by omega
      have x60 : 0 ≤ x % 6 := by omega
      go_wp2
      go_roundw
      case rel => exact ⟨j + 1, pre ++ [1 + x % 6], by omega, by omega, by go_num, rfl, by simp [HP.out], hb.alloc hb.size _⟩
      case measure => simp [intOf]; omega
    · have hS : (strOfNums pre).size ≤ 30 := by rw [strOfNums_size]; omega
      generalize strOfNums pre = T at hS ⊢
      clear hpl
      by_cases hl1 : j < len
      · have hl2 : ¬ (j : Int) < 30 := by omega
        clear hlt
        have HM : Hid (T.size ≤ maxLen) := Lib.hid (by unfold maxLen; omega)
        have HB1 := Lib.hid hb
        rcases once T with ⟨er, her, hr⟩ | ⟨k, n, F, q, l, hr, hright, hq1, hq2, hx⟩
        · have HG : Hid (∀ (W : World), Calls Try.prog 16 #[.string T, .int .i64 0] W fun e w' => e = .returned (.tuple #[.agg #[.int .i64 0, .int .i64 0, .slice none 0 0], .int .i64 0, .int .i64 er]) ∧ Below W.heap.size W w') := Lib.hid (fun W => by
            have := lGet_ans T 0 W HM.out
            rw [hr] at this
            refine this.mono ?_
            rintro e w' ⟨hb, he⟩
            exact ⟨he, hb⟩)
          have dne : ((er : Int) != 0) = true := by rw [bne_iff_ne]; omega
          clear hr her
          go_wp2_with fail
          refine (HG.out _).mono ?_
          rintro e w2 ⟨rfl, hb2⟩
          have HB2 := Lib.hid (Below.step HB1.out hb2 (Nat.le_refl _))
          clear hb2
          go_wp2_with fail
          go_ret
          exact ⟨rfl, HB2.out.alloc (by have := HB2.out.size; omega) _⟩
        · have HG : Hid (∀ (W : World), Calls Try.prog 16 #[.string T, .int .i64 0] W fun e w' => ∃ x c, e = .returned (.tuple #[.agg #[.int .i64 k, .int .i64 n, .slice x F.len c], .int .i64 q, .int .i64 0]) ∧ SlIn w' (fun b => W.heap.size ≤ b ∧ b < w'.heap.size) F x c ∧ Below W.heap.size W w') := Lib.hid (fun W => by
            have := lGet_ans T 0 W HM.out
            rw [hr] at this
            refine this.mono ?_
            rintro e w' ⟨hb, x, c, he, hs⟩
            exact ⟨x, c, he, hs, hb⟩)
          have HX := Lib.hid hx
          obtain ⟨S, hS⟩ : ∃ S, strOfNums (encL k n F) = S := ⟨_, rfl⟩
          have HP : Hid (∀ (W : World) (x : Option Addr) (c B : Nat), SlIn W (· < B) F x c → B ≤ W.heap.size → Calls Try.prog 13 #[.agg #[.int .i64 k, .int .i64 n, .slice x F.len c]] W fun e w' => e = .returned (.tuple #[.string S, .int .i64 0]) ∧ Below W.heap.size W w') := Lib.hid (fun W x c B h1 h2 => by
            have := lPut_any k n F x c B W h1 h2
            rwa [lputV_yes hright, hS] at this)
          rw [hS] at HX
          have hq1' : (1 : Int) ≤ (q : Int) := by omega
          have hq2' : (q : Int) ≤ (T.size : Int) := by omega
          have dq1 : decide (1 ≤ q) = true := by simpa using hq1
          have dq2 : decide (q ≤ T.size) = true := by simpa using hq2
          clear hr hx hS hright
          go_wp2_with fail
          refine (HG.out _).mono ?_
          rintro e w2 ⟨x, c, rfl, hs2, hb2⟩
          have HB2 := Lib.hid (Below.step HB1.out hb2 (Nat.le_refl _))
          have HS2 : Hid (∀ o, SlIn (w2.alloc o) (· < w2.heap.size) F x c) := Lib.hid (fun o => hs2.mine ((Below.refl _ _).alloc (Nat.le_refl _) o))
          clear hb2 hs2
          go_wp2_with fail
          refine (HP.out _ _ _ w2.heap.size (HS2.out _) (by simp)).mono ?_
          rintro e w3 ⟨rfl, hb3⟩
          have HB3 := Lib.hid (Below.step (HB2.out.alloc HB2.out.size _) hb3 (Nat.le_refl _))
          clear hb3
          go_wp2_with fail
          go_ret
          exact ⟨ret_eq HX.out, HB3.out⟩
      · clear hlt
        have HM : Hid (T.size ≤ maxLen) := Lib.hid (by unfold maxLen; omega)
        have HB1 := Lib.hid hb
        rcases once T with ⟨er, her, hr⟩ | ⟨k, n, F, q, l, hr, hright, hq1, hq2, hx⟩
        · have HG : Hid (∀ (W : World), Calls Try.prog 16 #[.string T, .int .i64 0] W fun e w' => e = .returned (.tuple #[.agg #[.int .i64 0, .int .i64 0, .slice none 0 0], .int .i64 0, .int .i64 er]) ∧ Below W.heap.size W w') := Lib.hid (fun W => by
            have := lGet_ans T 0 W HM.out
            rw [hr] at this
            refine this.mono ?_
            rintro e w' ⟨hb, he⟩
            exact ⟨he, hb⟩)
          have dne : ((er : Int) != 0) = true := by rw [bne_iff_ne]; omega
          clear hr her
          go_wp2_with fail
          refine (HG.out _).mono ?_
          rintro e w2 ⟨rfl, hb2⟩
          have HB2 := Lib.hid (Below.step HB1.out hb2 (Nat.le_refl _))
          clear hb2
          go_wp2_with fail
          go_ret
          exact ⟨rfl, HB2.out.alloc (by have := HB2.out.size; omega) _⟩
        · have HG : Hid (∀ (W : World), Calls Try.prog 16 #[.string T, .int .i64 0] W fun e w' => ∃ x c, e = .returned (.tuple #[.agg #[.int .i64 k, .int .i64 n, .slice x F.len c], .int .i64 q, .int .i64 0]) ∧ SlIn w' (fun b => W.heap.size ≤ b ∧ b < w'.heap.size) F x c ∧ Below W.heap.size W w') := Lib.hid (fun W => by
            have := lGet_ans T 0 W HM.out
            rw [hr] at this
            refine this.mono ?_
            rintro e w' ⟨hb, x, c, he, hs⟩
            exact ⟨x, c, he, hs, hb⟩)
          have HX := Lib.hid hx
          obtain ⟨S, hS⟩ : ∃ S, strOfNums (encL k n F) = S := ⟨_, rfl⟩
          have HP : Hid (∀ (W : World) (x : Option Addr) (c B : Nat), SlIn W (· < B) F x c → B ≤ W.heap.size → Calls Try.prog 13 #[.agg #[.int .i64 k, .int .i64 n, .slice x F.len c]] W fun e w' => e = .returned (.tuple #[.string S, .int .i64 0]) ∧ Below W.heap.size W w') := Lib.hid (fun W x c B h1 h2 => by
            have := lPut_any k n F x c B W h1 h2
            rwa [lputV_yes hright, hS] at this)
          rw [hS] at HX
          have hq1' : (1 : Int) ≤ (q : Int) := by omega
          have hq2' : (q : Int) ≤ (T.size : Int) := by omega
          have dq1 : decide (1 ≤ q) = true := by simpa using hq1
          have dq2 : decide (q ≤ T.size) = true := by simpa using hq2
          clear hr hx hS hright
          go_wp2_with fail
          refine (HG.out _).mono ?_
          rintro e w2 ⟨x, c, rfl, hs2, hb2⟩
          have HB2 := Lib.hid (Below.step HB1.out hb2 (Nat.le_refl _))
          have HS2 : Hid (∀ o, SlIn (w2.alloc o) (· < w2.heap.size) F x c) := Lib.hid (fun o => hs2.mine ((Below.refl _ _).alloc (Nat.le_refl _) o))
          clear hb2 hs2
          go_wp2_with fail
          refine (HP.out _ _ _ w2.heap.size (HS2.out _) (by simp)).mono ?_
          rintro e w3 ⟨rfl, hb3⟩
          have HB3 := Lib.hid (Below.step (HB2.out.alloc HB2.out.size _) hb3 (Nat.le_refl _))
          clear hb3
          go_wp2_with fail
          go_ret
          exact ⟨ret_eq HX.out, HB3.out⟩

set_option maxRecDepth 100000 in
theorem lifted (os : Os) (started : os.Started) (H : Type) (enc : TypeId × Value → H) :
    ReturnsInHanded {} Try.checked os 8 .any (Rows.lcodeOnceSpec.pre6 enc Try.prog Try.f8 Rows.lcodeOnceRow.domain false) (Rows.lcodeOnceSpec.post enc Try.prog Try.f8 false true false false) := by
  refine returnsInHanded_of_change (C := Try.checked) own started (by kernel_rfl) Try.func8
    (ChangeSpec.witness6 (enc := enc) (C := Try.checked) false ⟨#[], #[.string ⟨#[]⟩, .slice none 0 0, .bool false], []⟩ 8 (by kernel_rfl) (by kernel_rfl) (by kernel_rfl) (by kernel_rfl)) ?_
  intro W base args ds gs before hval0 hW hcnd _
  have hval : ∀ (j : Nat) t v, Try.f8.params[j]? = some t → args[j]? = some v → Value.okWide Try.prog W .any base t v := hval0
  have hW' := hW
  obtain ⟨p, q, hA0, hV, rfl, hfz, hnd⟩ := hW
  have hA : DataW.TrodAll enc Try.prog W 0 (fun _ => true) true Try.f8.params.toList args.toList ds p := hA0
  rw [Try.params8] at hA hval
  obtain ⟨v0, vs0, d0, ds0, p0, q0, hargs, rfl, rfl, h0, hr0⟩ := trodAll_cons hA
  obtain ⟨v1, vs1, d1, ds1, p1, q1, rfl, rfl, rfl, h1, hr1⟩ := trodAll_cons hr0
  obtain ⟨v2, vs2, d2, ds2, p2, q2, rfl, rfl, rfl, h2, hr2⟩ := trodAll_cons hr1
  obtain ⟨rfl, rfl, rfl⟩ := trodAll_nil hr2
  obtain rfl : args = #[v0, v1, v2] := by cases args; simp_all
  obtain ⟨rfl, rfl⟩ := trodVars_none hV
  obtain ⟨s, rfl, rfl, rfl, hs⟩ := Go.ChangeMaps.open_string Try.underlying9 (hval 0 9 v0 rfl rfl) h0
  obtain ⟨n1, a1, c1, rfl, hs1⟩ := arg_bytes (hval 1 24 v1 rfl rfl) h1
  obtain ⟨b, rfl, rfl, rfl⟩ := open_bool Try.underlying4 (hval 2 4 v2 rfl rfl) h2
  have hlt := hW'.lt
  have key : Calls Try.prog 8 #[.string s, .slice a1 n1 c1, .bool b] W fun e w' => e = .returned (.bool true) ∧ Below W.heap.size W w' := by
    cases b
    · by_cases h3 : s.size ≤ 300
      · exact walk_plain s n1 c1 a1 W h3
      · exact walk_long s n1 c1 a1 W hs1 (by omega) (by unfold maxLen at hs; omega)
    · exact walk_small s n1 c1 a1 W hs1
  refine key.mono fun e W' ⟨he, hb⟩ => ?_
  subst he
  have t1 := Below.trod laidOut (by kernel_rfl) (of_decide_eq_true (by kernel_rfl)) h1 hb (fun x hx => hlt x (by simp [hx]))
  exact ⟨_, rfl, ⟨_, _, _, [], _, [], hW', trodAll_mk1 (shut_bool Try.underlying4 _), trodAll_mk3 (Go.ChangeMaps.shut_string Try.underlying9 hs) t1 (shut_bool Try.underlying4 _), rfl, hb.frame _, fun h => by cases h⟩⟩

theorem over : Rows.lcodeOnceRow.holds Try.pinned (OpenSpec.ofChange Rows.lcodeOnceSpec) :=
  OpenClaim.holds_of_wide 8 Try.f8 rfl rfl rfl rfl rfl rfl rfl ⟨rfl, rfl, rfl, rfl, rfl⟩ rfl rfl rfl rfl rfl (by kernel_rfl) Try.func8 (by kernel_rfl)
    (of_decide_eq_true (by kernel_rfl)) (by unfold Func.isWrapper; first | (rw [if_pos (by decide +kernel)]; kernel_rfl) | (rw [if_neg (by decide +kernel)]; exact ⟨rfl, rfl⟩))
    (fun os started H enc _ => lifted os started H enc)

/-- THE STATEMENT -/
theorem proved : Rows.LcodeOnceSaid :=
  over
#print axioms proved
end Go.Proofs.Ytcgeipcffhfclaa.lcodeOnce
