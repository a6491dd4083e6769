/- The walk of the law TcodeOnce. The conditions: what the program's Put and Get answer (GetC, PutC). -/
import Derived.Test.YthnkoamabfaioaaZP4
import Derived.Deep.LoopGhost
import Derived.Deep.DeepCutAuto
namespace Go.Proofs.Ythnkoamabfaioaa.tcodeOnce
open Go.RowKit

/-- What Get tells from the beginning on, in its two cases. -/
theorem once (s : ByteArray) : (∃ er, er ≠ 0 ∧ ansT s 0 = .no er) ∨ ∃ (k n : Nat) (ls : Fo) (ks : Ft) (q m : Nat), ansT s 0 = .ok k n ls ks q m ∧ shB k n ls ks = true ∧ 1 ≤ q ∧ q ≤ s.size ∧ s.extract 0 q = strOfNums (encT k n ls ks) := by
  have e : ansT s 0 = rdT s 30 0 0 0 := by unfold ansT; rw [if_neg (by omega)]; rfl
  rw [e]
  have ho := rdT_once s 30 0 0 0 (Nat.zero_le _)
  cases h : rdT s 30 0 0 0 with
  | no er =>
    rw [h] at ho
    exact .inl ⟨er, ho, rfl⟩
  | ok k n ls ks q m =>
    obtain ⟨h1, ⟨h3, h4, h5⟩, h6⟩ := rdT_sh (Nat.zero_le _) h
    refine .inr ⟨k, n, ls, ks, q, m, rfl, h1, by omega, h4, ?_⟩
    apply ByteArray.ext
    rw [strOfNums_eq, ByteArray.data_extract, ← Array.toList_inj, Array.toList_extract, ← h5]
theorem ret_eq {a b : ByteArray} (h : a = b) : Ending.returned (.bool (a.toList == b.toList)) = .returned (.bool true) := by rw [h]; simp
/-- The table that the law reads. -/
def tab : Array Value := #[.int .u8 4, .int .u8 1, .int .u8 0, .int .u8 2, .int .u8 1, .int .u8 5, .int .u8 6, .int .u8 1]
theorem tab_at (x : Int) : ∃ y : Int, tab[(x % 8).toNat]? = some (.int .u8 y) := by
  have h : (x % 8).toNat < 8 := by omega
  generalize (x % 8).toNat = i at h
  match i, h with
  | 0, _ => exact ⟨4, rfl⟩
  | 1, _ => exact ⟨1, rfl⟩
  | 2, _ => exact ⟨0, rfl⟩
  | 3, _ => exact ⟨2, rfl⟩
  | 4, _ => exact ⟨1, rfl⟩
  | 5, _ => exact ⟨5, rfl⟩
  | 6, _ => exact ⟨6, rfl⟩
  | 7, _ => exact ⟨1, rfl⟩
theorem tab_cell (wr : World) (x y : Int) (h : tab[(x % 8).toNat]? = some (.int .u8 y)) :
    (wr.alloc (.cells #[.int .u8 4, .int .u8 1, .int .u8 0, .int .u8 2, .int .u8 1, .int .u8 5, .int .u8 6, .int .u8 1] 5)).cell? ⟨wr.heap.size, (x % 8).toNat, none⟩ = some (.int .u8 y) := by
  have := World.cell?_alloc_mark wr tab 5 (0, 0) (x % 8).toNat
  rw [h] at this
  exact this
theorem old_cell (wr : World) (C : Array Value) (b i : Nat) (v : Value) (hb : b < wr.heap.size) (h : wr.cell? ⟨b, i, none⟩ = some v) : (wr.alloc (.cells C 5)).cell? ⟨b, i, none⟩ = some v :=
  (((Below.refl wr.heap.size wr).alloc (Nat.le_refl _) (.cells C 5)).cell (p := ⟨b, i, none⟩) hb).trans h

set_option maxRecDepth 100000 in
set_option maxHeartbeats 4000000 in
theorem walk_plain (hG : GetC) (hP : PutC) (s : ByteArray) (len cap : Nat) (a : Option Addr) (w : World) (hs : s.size ≤ 300) :
    Calls Try.prog 8 #[.string s, .slice a len cap, .bool false] w fun e w' => e = .returned (.bool true) ∧ Below w.heap.size w w' := by
  have d1 : decide (300 < s.size) = false := by simp; omega
  have d2 : decide ((300 : Int) < (s.size : Int)) = false := by simp; omega
  have HM : Hid (s.size ≤ maxLen) := Lib.hid (by unfold maxLen; omega)
  rcases once s with ⟨er, her, hr⟩ | ⟨k, n, ls, ks, q, m, hr, hsh, hq1, hq2, hx⟩
  · have HGT : Hid (∀ (W : World), Calls Try.prog 17 #[.string s, .int .i64 0] W fun e w' => e = .returned (.tuple #[.agg #[.int .i64 0, .int .i64 0, .slice none 0 0, .slice none 0 0], .int .i64 0, .int .i64 er]) ∧ Below W.heap.size W w') := Lib.hid (fun W => by
      have := hG s 0 W HM.out
      rw [hr] at this
      refine this.mono ?_
      rintro e w' ⟨hb, he⟩
      exact ⟨he, hb⟩)
    have dne : ((er : Int) != 0) = true := by rw [bne_iff_ne]; omega
    clear hr her
    go_enter Try.func8, Try.ntmps8
    go_wp2_with fail
    refine (awake14_any hG hP _).mono ?_
    rintro e w1 ⟨rfl, hb1⟩
    have HB1 := Lib.hid hb1
    clear hb1
    go_wp2_with fail
    refine (HGT.out _).mono ?_
    rintro e w2 ⟨rfl, hb2⟩
    have HB2 := Lib.hid (Below.step HB1.out hb2 (Nat.le_refl _))
    clear hb2
    go_wp2_with fail
    go_ret
    exact ⟨rfl, HB2.out.alloc (by have := HB2.out.size; omega) _⟩
  · have HGT : Hid (∀ (W : World), Calls Try.prog 17 #[.string s, .int .i64 0] W fun e w' => ∃ la lc x c, e = .returned (.tuple #[.agg #[.int .i64 k, .int .i64 n, .slice la ls.len lc, .slice x ks.len c], .int .i64 q, .int .i64 0]) ∧ TmIn w' w'.heap.size ⟨k, n, ls, ks⟩ la lc x c ∧ Below W.heap.size W w') := Lib.hid (fun W => by
      have := hG s 0 W HM.out
      rw [hr] at this
      exact this.mono (fun _ _ h => tg_laid h))
    have HX := Lib.hid hx
    obtain ⟨S, hS⟩ : ∃ S, strOfNums (encT k n ls ks) = S := ⟨_, rfl⟩
    have HPU : Hid (∀ (W : World) (N : Nat) (la : Option Addr) (lc : Nat) (x : Option Addr) (c : Nat), TmIn W N ⟨k, n, ls, ks⟩ la lc x c → Calls Try.prog 14 #[.agg #[.int .i64 k, .int .i64 n, .slice la ls.len lc, .slice x ks.len c]] W fun e w' => e = .returned (.tuple #[.string S, .int .i64 0]) ∧ Below W.heap.size W w') := Lib.hid (fun W N la lc x c h => by
      have := hP k n ls ks la x lc c W.heap.size W (h.1.mono h.2.2) (h.2.1.mono h.2.2) (Nat.le_refl _)
      rwa [tputV_yes hsh, hS] at this)
    rw [hS] at HX
    have hq1' : (1 : Int) ≤ (q : Int) := by omega
    have hq2' : (q : Int) ≤ (s.size : Int) := by omega
    have dq1 : decide (1 ≤ q) = true := by simpa using hq1
    have dq2 : decide (q ≤ s.size) = true := by simpa using hq2
    clear hr hx hS hsh
    go_enter Try.func8, Try.ntmps8
    go_wp2_with fail
    refine (awake14_any hG hP _).mono ?_
    rintro e w1 ⟨rfl, hb1⟩
    have HB1 := Lib.hid hb1
    clear hb1
    go_wp2_with fail
    refine (HGT.out _).mono ?_
    rintro e w2 ⟨la, lc, x, c, rfl, t2, hb2⟩
    have T3 := Lib.hid (TmBox.new t2)
    have hal : Below w2.heap.size w2 (w2.alloc (.cells #[.int .i64 k, .int .i64 n, .slice la ls.len lc, .slice x ks.len c] 29)) := (Below.refl _ _).alloc (Nat.le_refl _) _
    have HB3 := Lib.hid (Below.step (Below.step HB1.out hb2 (Nat.le_refl _)) hal (Nat.le_refl _))
    have hpu := HPU.out _ _ _ _ _ _ T3.out.2
    have HPW := Lib.hid hpu
    clear hb2 t2 hal hpu HPU T3
    go_wp2_with fail
    refine HPW.out.mono ?_
    rintro e w4 ⟨rfl, hb4⟩
    have HB4 := Lib.hid (Below.step HB3.out hb4 (Nat.le_refl _))
    clear hb4 HPW HB3
    go_wp2_with fail
    go_ret
    exact ⟨ret_eq HX.out, HB4.out⟩

set_option maxRecDepth 100000 in
set_option maxHeartbeats 4000000 in
theorem walk_small (hG : GetC) (hP : PutC) (s : ByteArray) (len cap : Nat) (a : Option Addr) (w : World) (hin : U8In w (· < w.heap.size) len a cap) :
    Calls Try.prog 8 #[.string s, .slice a len cap, .bool true] w fun e w' => e = .returned (.bool true) ∧ Below w.heap.size w w' := by
  have hm : len ≤ 9223372036854775807 := by have h1 := hin.1; have h2 := hin.2.1; unfold maxLen at h2; omega
  go_enter Try.func8, Try.ntmps8
  go_wp2_with fail
  refine (awake14_any hG hP _).mono ?_
  rintro e w1 ⟨rfl, hb1⟩
  have HB1 := Lib.hid hb1
  clear hb1
  go_wp2_with fail
  go_loopw [0, 8] (fun st i wr => ∃ (j : Nat) (pre : List Int), j ≤ 40 ∧ j ≤ len ∧ i = .int .i64 j ∧ st = .string (strOfNums pre) ∧ pre.length = j ∧ Below w.heap.size w wr) (fun _ i _ => 40 - (intOf i).toNat)
  case atStart => exact ⟨0, [], by omega, by omega, rfl, rfl, rfl, HB1.out⟩
  case round =>
    obtain ⟨j, pre, hj, hjl, rfl, rfl, hpl, hb⟩ := hrel
    clear HB1
    by_cases hlt : j < len ∧ j < 40
    · obtain ⟨hl1, hl2⟩ := hlt
      have hl2' : (j : Int) < 40 := by omega
      obtain ⟨b, off, x, rfl, hbl, hx1, hx2, hc0⟩ := hin.at hl1
      have hc := (hb.cell (p := ⟨b, off + j, none⟩) hbl).trans hc0
      have HPL := Lib.hid hpl
      clear hpl hc0
      obtain ⟨y, hy⟩ := tab_at x
      have ht := tab_cell wr x y hy
      have ho := old_cell wr #[.int .u8 4, .int .u8 1, .int .u8 0, .int .u8 2, .int .u8 1, .int .u8 5, .int .u8 6, .int .u8 1] b (off + j) _ (Nat.lt_of_lt_of_le hbl hb.size) hc
      have h8 : x % 8 < 8 := by omega
      have h80 : 0 ≤ x % 8 := by omega
      clear hy hc
      have hc1 := conv1 y (wr.alloc (.cells #[.int .u8 4, .int .u8 1, .int .u8 0, .int .u8 2, .int .u8 1, .int .u8 5, .int .u8 6, .int .u8 1] 5))
      rw [World.size_alloc] at hc1
      have ha := add_nums pre [y] (by have := HPL.out; omega) (by simp)
      go_wp2
      go_roundw
      case rel => exact ⟨j + 1, pre ++ [y], by omega, by omega, by go_num, rfl, by simp [HPL.out], (hb.alloc hb.size _).alloc (by have := hb.size; simp; omega) _⟩
      case measure => simp [intOf]; omega
    · have hS : (strOfNums pre).size ≤ 40 := by rw [strOfNums_size]; omega
      generalize strOfNums pre = T at hS ⊢
      clear hpl
      have HM : Hid (T.size ≤ maxLen) := Lib.hid (by unfold maxLen; omega)
      have HB1 := Lib.hid hb
      by_cases hl1 : j < len
      · have hl2 : ¬ (j : Int) < 40 := by omega
        clear hlt
        rcases once T with ⟨er, her, hr⟩ | ⟨k, n, ls, ks, q, m, hr, hsh, hq1, hq2, hx⟩
        · have HGT : Hid (∀ (W : World), Calls Try.prog 17 #[.string T, .int .i64 0] W fun e w' => e = .returned (.tuple #[.agg #[.int .i64 0, .int .i64 0, .slice none 0 0, .slice none 0 0], .int .i64 0, .int .i64 er]) ∧ Below W.heap.size W w') := Lib.hid (fun W => by
            have := hG T 0 W HM.out
            rw [hr] at this
            refine this.mono ?_
            rintro e w' ⟨hb, he⟩
            exact ⟨he, hb⟩)
          have dne : ((er : Int) != 0) = true := by rw [bne_iff_ne]; omega
          clear hr her
          go_wp2_with fail
          refine (HGT.out _).mono ?_
          rintro e w2 ⟨rfl, hb2⟩
          have HB2 := Lib.hid (Below.step HB1.out hb2 (Nat.le_refl _))
          clear hb2
          go_wp2_with fail
          go_ret
          exact ⟨rfl, HB2.out.alloc (by have := HB2.out.size; omega) _⟩
        · have HGT : Hid (∀ (W : World), Calls Try.prog 17 #[.string T, .int .i64 0] W fun e w' => ∃ la lc x c, e = .returned (.tuple #[.agg #[.int .i64 k, .int .i64 n, .slice la ls.len lc, .slice x ks.len c], .int .i64 q, .int .i64 0]) ∧ TmIn w' w'.heap.size ⟨k, n, ls, ks⟩ la lc x c ∧ Below W.heap.size W w') := Lib.hid (fun W => by
            have := hG T 0 W HM.out
            rw [hr] at this
            exact this.mono (fun _ _ h => tg_laid h))
          have HX := Lib.hid hx
          obtain ⟨S, hS⟩ : ∃ S, strOfNums (encT k n ls ks) = S := ⟨_, rfl⟩
          have HPU : Hid (∀ (W : World) (N : Nat) (la : Option Addr) (lc : Nat) (x : Option Addr) (c : Nat), TmIn W N ⟨k, n, ls, ks⟩ la lc x c → Calls Try.prog 14 #[.agg #[.int .i64 k, .int .i64 n, .slice la ls.len lc, .slice x ks.len c]] W fun e w' => e = .returned (.tuple #[.string S, .int .i64 0]) ∧ Below W.heap.size W w') := Lib.hid (fun W N la lc x c h => by
            have := hP k n ls ks la x lc c W.heap.size W (h.1.mono h.2.2) (h.2.1.mono h.2.2) (Nat.le_refl _)
            rwa [tputV_yes hsh, hS] at this)
          rw [hS] at HX
          have hq1' : (1 : Int) ≤ (q : Int) := by omega
          have hq2' : (q : Int) ≤ (T.size : Int) := by omega
          have dq1 : decide (1 ≤ q) = true := by simpa using hq1
          have dq2 : decide (q ≤ T.size) = true := by simpa using hq2
          clear hr hx hS hsh
          go_wp2_with fail
          refine (HGT.out _).mono ?_
          rintro e w2 ⟨la, lc, x, c, rfl, t2, hb2⟩
          have T3 := Lib.hid (TmBox.new t2)
          have hal : Below w2.heap.size w2 (w2.alloc (.cells #[.int .i64 k, .int .i64 n, .slice la ls.len lc, .slice x ks.len c] 29)) := (Below.refl _ _).alloc (Nat.le_refl _) _
          have HB3 := Lib.hid (Below.step (Below.step HB1.out hb2 (Nat.le_refl _)) hal (Nat.le_refl _))
          have hpu := HPU.out _ _ _ _ _ _ T3.out.2
          have HPW := Lib.hid hpu
          clear hb2 t2 hal hpu HPU T3
          go_wp2_with fail
          refine HPW.out.mono ?_
          rintro e w4 ⟨rfl, hb4⟩
          have HB4 := Lib.hid (Below.step HB3.out hb4 (Nat.le_refl _))
          clear hb4 HPW HB3
          go_wp2_with fail
          go_ret
          exact ⟨ret_eq HX.out, HB4.out⟩
      · clear hlt
        rcases once T with ⟨er, her, hr⟩ | ⟨k, n, ls, ks, q, m, hr, hsh, hq1, hq2, hx⟩
        · have HGT : Hid (∀ (W : World), Calls Try.prog 17 #[.string T, .int .i64 0] W fun e w' => e = .returned (.tuple #[.agg #[.int .i64 0, .int .i64 0, .slice none 0 0, .slice none 0 0], .int .i64 0, .int .i64 er]) ∧ Below W.heap.size W w') := Lib.hid (fun W => by
            have := hG T 0 W HM.out
            rw [hr] at this
            refine this.mono ?_
            rintro e w' ⟨hb, he⟩
            exact ⟨he, hb⟩)
          have dne : ((er : Int) != 0) = true := by rw [bne_iff_ne]; omega
          clear hr her
          go_wp2_with fail
          refine (HGT.out _).mono ?_
          rintro e w2 ⟨rfl, hb2⟩
          have HB2 := Lib.hid (Below.step HB1.out hb2 (Nat.le_refl _))
          clear hb2
          go_wp2_with fail
          go_ret
          exact ⟨rfl, HB2.out.alloc (by have := HB2.out.size; omega) _⟩
        · have HGT : Hid (∀ (W : World), Calls Try.prog 17 #[.string T, .int .i64 0] W fun e w' => ∃ la lc x c, e = .returned (.tuple #[.agg #[.int .i64 k, .int .i64 n, .slice la ls.len lc, .slice x ks.len c], .int .i64 q, .int .i64 0]) ∧ TmIn w' w'.heap.size ⟨k, n, ls, ks⟩ la lc x c ∧ Below W.heap.size W w') := Lib.hid (fun W => by
            have := hG T 0 W HM.out
            rw [hr] at this
            exact this.mono (fun _ _ h => tg_laid h))
          have HX := Lib.hid hx
          obtain ⟨S, hS⟩ : ∃ S, strOfNums (encT k n ls ks) = S := ⟨_, rfl⟩
          have HPU : Hid (∀ (W : World) (N : Nat) (la : Option Addr) (lc : Nat) (x : Option Addr) (c : Nat), TmIn W N ⟨k, n, ls, ks⟩ la lc x c → Calls Try.prog 14 #[.agg #[.int .i64 k, .int .i64 n, .slice la ls.len lc, .slice x ks.len c]] W fun e w' => e = .returned (.tuple #[.string S, .int .i64 0]) ∧ Below W.heap.size W w') := Lib.hid (fun W N la lc x c h => by
            have := hP k n ls ks la x lc c W.heap.size W (h.1.mono h.2.2) (h.2.1.mono h.2.2) (Nat.le_refl _)
            rwa [tputV_yes hsh, hS] at this)
          rw [hS] at HX
          have hq1' : (1 : Int) ≤ (q : Int) := by omega
          have hq2' : (q : Int) ≤ (T.size : Int) := by omega
          have dq1 : decide (1 ≤ q) = true := by simpa using hq1
          have dq2 : decide (q ≤ T.size) = true := by simpa using hq2
          clear hr hx hS hsh
          go_wp2_with fail
          refine (HGT.out _).mono ?_
          rintro e w2 ⟨la, lc, x, c, rfl, t2, hb2⟩
          have T3 := Lib.hid (TmBox.new t2)
          have hal : Below w2.heap.size w2 (w2.alloc (.cells #[.int .i64 k, .int .i64 n, .slice la ls.len lc, .slice x ks.len c] 29)) := (Below.refl _ _).alloc (Nat.le_refl _) _
          have HB3 := Lib.hid (Below.step (Below.step HB1.out hb2 (Nat.le_refl _)) hal (Nat.le_refl _))
          have hpu := HPU.out _ _ _ _ _ _ T3.out.2
          have HPW := Lib.hid hpu
          clear hb2 t2 hal hpu HPU T3
          go_wp2_with fail
          refine HPW.out.mono ?_
          rintro e w4 ⟨rfl, hb4⟩
          have HB4 := Lib.hid (Below.step HB3.out hb4 (Nat.le_refl _))
          clear hb4 HPW HB3
          go_wp2_with fail
          go_ret
          exact ⟨ret_eq HX.out, HB4.out⟩

set_option maxRecDepth 100000 in
set_option maxHeartbeats 4000000 in
theorem walk_long (hG : GetC) (hP : PutC) (s : ByteArray) (len cap : Nat) (a : Option Addr) (w : World) (hin : U8In w (· < w.heap.size) len a cap) (hs : 300 < s.size) :
    Calls Try.prog 8 #[.string s, .slice a len cap, .bool false] w fun e w' => e = .returned (.bool true) ∧ Below w.heap.size w w' := by
  have hm : len ≤ 9223372036854775807 := by have h1 := hin.1; have h2 := hin.2.1; unfold maxLen at h2; omega
  have d1 : decide (300 < s.size) = true := by simp; omega
  have d2 : decide ((300 : Int) < (s.size : Int)) = true := by simp; omega
  go_enter Try.func8, Try.ntmps8
  go_wp2_with fail
  refine (awake14_any hG hP _).mono ?_
  rintro e w1 ⟨rfl, hb1⟩
  have HB1 := Lib.hid hb1
  clear hb1
  go_wp2_with fail
  go_loopw [0, 8] (fun st i wr => ∃ (j : Nat) (pre : List Int), j ≤ 40 ∧ j ≤ len ∧ i = .int .i64 j ∧ st = .string (strOfNums pre) ∧ pre.length = j ∧ Below w.heap.size w wr) (fun _ i _ => 40 - (intOf i).toNat)
  case atStart => exact ⟨0, [], by omega, by omega, rfl, rfl, rfl, HB1.out⟩
  case round =>
    obtain ⟨j, pre, hj, hjl, rfl, rfl, hpl, hb⟩ := hrel
    clear HB1
    by_cases hlt : j < len ∧ j < 40
    · obtain ⟨hl1, hl2⟩ := hlt
      have hl2' : (j : Int) < 40 := by omega
      obtain ⟨b, off, x, rfl, hbl, hx1, hx2, hc0⟩ := hin.at hl1
      have hc := (hb.cell (p := ⟨b, off + j, none⟩) hbl).trans hc0
      have HPL := Lib.hid hpl
      clear hpl hc0
      obtain ⟨y, hy⟩ := tab_at x
      have ht := tab_cell wr x y hy
      have ho := old_cell wr #[.int .u8 4, .int .u8 1, .int .u8 0, .int .u8 2, .int .u8 1, .int .u8 5, .int .u8 6, .int .u8 1] b (off + j) _ (Nat.lt_of_lt_of_le hbl hb.size) hc
      have h8 : x % 8 < 8 := by omega
      have h80 : 0 ≤ x % 8 := by omega
      clear hy hc
      have hc1 := conv1 y (wr.alloc (.cells #[.int .u8 4, .int .u8 1, .int .u8 0, .int .u8 2, .int .u8 1, .int .u8 5, .int .u8 6, .int .u8 1] 5))
      rw [World.size_alloc] at hc1
      have ha := add_nums pre [y] (by have := HPL.out; omega) (by simp)
      go_wp2
      go_roundw
      case rel => exact ⟨j + 1, pre ++ [y], by omega, by omega, by go_num, rfl, by simp [HPL.out], (hb.alloc hb.size _).alloc (by have := hb.size; simp; omega) _⟩
      case measure => simp [intOf]; omega
    · have hS : (strOfNums pre).size ≤ 40 := by rw [strOfNums_size]; omega
      generalize strOfNums pre = T at hS ⊢
      clear hpl
      have HM : Hid (T.size ≤ maxLen) := Lib.hid (by unfold maxLen; omega)
      have HB1 := Lib.hid hb
      by_cases hl1 : j < len
      · have hl2 : ¬ (j : Int) < 40 := by omega
        clear hlt
        rcases once T with ⟨er, her, hr⟩ | ⟨k, n, ls, ks, q, m, hr, hsh, hq1, hq2, hx⟩
        · have HGT : Hid (∀ (W : World), Calls Try.prog 17 #[.string T, .int .i64 0] W fun e w' => e = .returned (.tuple #[.agg #[.int .i64 0, .int .i64 0, .slice none 0 0, .slice none 0 0], .int .i64 0, .int .i64 er]) ∧ Below W.heap.size W w') := Lib.hid (fun W => by
            have := hG T 0 W HM.out
            rw [hr] at this
            refine this.mono ?_
            rintro e w' ⟨hb, he⟩
            exact ⟨he, hb⟩)
          have dne : ((er : Int) != 0) = true := by rw [bne_iff_ne]; omega
          clear hr her
          go_wp2_with fail
          refine (HGT.out _).mono ?_
          rintro e w2 ⟨rfl, hb2⟩
          have HB2 := Lib.hid (Below.step HB1.out hb2 (Nat.le_refl _))
          clear hb2
          go_wp2_with fail
          go_ret
          exact ⟨rfl, HB2.out.alloc (by have := HB2.out.size; omega) _⟩
        · have HGT : Hid (∀ (W : World), Calls Try.prog 17 #[.string T, .int .i64 0] W fun e w' => ∃ la lc x c, e = .returned (.tuple #[.agg #[.int .i64 k, .int .i64 n, .slice la ls.len lc, .slice x ks.len c], .int .i64 q, .int .i64 0]) ∧ TmIn w' w'.heap.size ⟨k, n, ls, ks⟩ la lc x c ∧ Below W.heap.size W w') := Lib.hid (fun W => by
            have := hG T 0 W HM.out
            rw [hr] at this
            exact this.mono (fun _ _ h => tg_laid h))
          have HX := Lib.hid hx
          obtain ⟨S, hS⟩ : ∃ S, strOfNums (encT k n ls ks) = S := ⟨_, rfl⟩
          have HPU : Hid (∀ (W : World) (N : Nat) (la : Option Addr) (lc : Nat) (x : Option Addr) (c : Nat), TmIn W N ⟨k, n, ls, ks⟩ la lc x c → Calls Try.prog 14 #[.agg #[.int .i64 k, .int .i64 n, .slice la ls.len lc, .slice x ks.len c]] W fun e w' => e = .returned (.tuple #[.string S, .int .i64 0]) ∧ Below W.heap.size W w') := Lib.hid (fun W N la lc x c h => by
            have := hP k n ls ks la x lc c W.heap.size W (h.1.mono h.2.2) (h.2.1.mono h.2.2) (Nat.le_refl _)
            rwa [tputV_yes hsh, hS] at this)
          rw [hS] at HX
          have hq1' : (1 : Int) ≤ (q : Int) := by omega
          have hq2' : (q : Int) ≤ (T.size : Int) := by omega
          have dq1 : decide (1 ≤ q) = true := by simpa using hq1
          have dq2 : decide (q ≤ T.size) = true := by simpa using hq2
          clear hr hx hS hsh
          go_wp2_with fail
          refine (HGT.out _).mono ?_
          rintro e w2 ⟨la, lc, x, c, rfl, t2, hb2⟩
          have T3 := Lib.hid (TmBox.new t2)
          have hal : Below w2.heap.size w2 (w2.alloc (.cells #[.int .i64 k, .int .i64 n, .slice la ls.len lc, .slice x ks.len c] 29)) := (Below.refl _ _).alloc (Nat.le_refl _) _
          have HB3 := Lib.hid (Below.step (Below.step HB1.out hb2 (Nat.le_refl _)) hal (Nat.le_refl _))
          have hpu := HPU.out _ _ _ _ _ _ T3.out.2
          have HPW := Lib.hid hpu
          clear hb2 t2 hal hpu HPU T3
          go_wp2_with fail
          refine HPW.out.mono ?_
          rintro e w4 ⟨rfl, hb4⟩
          have HB4 := Lib.hid (Below.step HB3.out hb4 (Nat.le_refl _))
          clear hb4 HPW HB3
          go_wp2_with fail
          go_ret
          exact ⟨ret_eq HX.out, HB4.out⟩
      · clear hlt
        rcases once T with ⟨er, her, hr⟩ | ⟨k, n, ls, ks, q, m, hr, hsh, hq1, hq2, hx⟩
        · have HGT : Hid (∀ (W : World), Calls Try.prog 17 #[.string T, .int .i64 0] W fun e w' => e = .returned (.tuple #[.agg #[.int .i64 0, .int .i64 0, .slice none 0 0, .slice none 0 0], .int .i64 0, .int .i64 er]) ∧ Below W.heap.size W w') := Lib.hid (fun W => by
            have := hG T 0 W HM.out
            rw [hr] at this
            refine this.mono ?_
            rintro e w' ⟨hb, he⟩
            exact ⟨he, hb⟩)
          have dne : ((er : Int) != 0) = true := by rw [bne_iff_ne]; omega
          clear hr her
          go_wp2_with fail
          refine (HGT.out _).mono ?_
          rintro e w2 ⟨rfl, hb2⟩
          have HB2 := Lib.hid (Below.step HB1.out hb2 (Nat.le_refl _))
          clear hb2
          go_wp2_with fail
          go_ret
          exact ⟨rfl, HB2.out.alloc (by have := HB2.out.size; omega) _⟩
        · have HGT : Hid (∀ (W : World), Calls Try.prog 17 #[.string T, .int .i64 0] W fun e w' => ∃ la lc x c, e = .returned (.tuple #[.agg #[.int .i64 k, .int .i64 n, .slice la ls.len lc, .slice x ks.len c], .int .i64 q, .int .i64 0]) ∧ TmIn w' w'.heap.size ⟨k, n, ls, ks⟩ la lc x c ∧ Below W.heap.size W w') := Lib.hid (fun W => by
            have := hG T 0 W HM.out
            rw [hr] at this
            exact this.mono (fun _ _ h => tg_laid h))
          have HX := Lib.hid hx
          obtain ⟨S, hS⟩ : ∃ S, strOfNums (encT k n ls ks) = S := ⟨_, rfl⟩
          have HPU : Hid (∀ (W : World) (N : Nat) (la : Option Addr) (lc : Nat) (x : Option Addr) (c : Nat), TmIn W N ⟨k, n, ls, ks⟩ la lc x c → Calls Try.prog 14 #[.agg #[.int .i64 k, .int .i64 n, .slice la ls.len lc, .slice x ks.len c]] W fun e w' => e = .returned (.tuple #[.string S, .int .i64 0]) ∧ Below W.heap.size W w') := Lib.hid (fun W N la lc x c h => by
            have := hP k n ls ks la x lc c W.heap.size W (h.1.mono h.2.2) (h.2.1.mono h.2.2) (Nat.le_refl _)
            rwa [tputV_yes hsh, hS] at this)
          rw [hS] at HX
          have hq1' : (1 : Int) ≤ (q : Int) := by omega
          have hq2' : (q : Int) ≤ (T.size : Int) := by omega
          have dq1 : decide (1 ≤ q) = true := by simpa using hq1
          have dq2 : decide (q ≤ T.size) = true := by simpa using hq2
          clear hr hx hS hsh
          go_wp2_with fail
          refine (HGT.out _).mono ?_
          rintro e w2 ⟨la, lc, x, c, rfl, t2, hb2⟩
          have T3 := Lib.hid (TmBox.new t2)
          have hal : Below w2.heap.size w2 (w2.alloc (.cells #[.int .i64 k, .int .i64 n, .slice la ls.len lc, .slice x ks.len c] 29)) := (Below.refl _ _).alloc (Nat.le_refl _) _
          have HB3 := Lib.hid (Below.step (Below.step HB1.out hb2 (Nat.le_refl _)) hal (Nat.le_refl _))
          have hpu := HPU.out _ _ _ _ _ _ T3.out.2
          have HPW := Lib.hid hpu
          clear hb2 t2 hal hpu HPU T3
          go_wp2_with fail
          refine HPW.out.mono ?_
          rintro e w4 ⟨rfl, hb4⟩
          have HB4 := Lib.hid (Below.step HB3.out hb4 (Nat.le_refl _))
          clear hb4 HPW HB3
          go_wp2_with fail
          go_ret
          exact ⟨ret_eq HX.out, HB4.out⟩

theorem walk (hG : GetC) (hP : PutC) (s : ByteArray) (len cap : Nat) (a : Option Addr) (sm : Bool) (w : World) (hin : U8In w (· < w.heap.size) len a cap) :
    Calls Try.prog 8 #[.string s, .slice a len cap, .bool sm] w fun e w' => e = .returned (.bool true) ∧ Below w.heap.size w w' := by
  cases sm with
  | true => exact walk_small hG hP s len cap a w hin
  | false =>
    by_cases h : s.size ≤ 300
    · exact walk_plain hG hP s len cap a w h
    · exact walk_long hG hP s len cap a w hin (by omega)
end Go.Proofs.Ythnkoamabfaioaa.tcodeOnce
