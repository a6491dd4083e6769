/- The walk of the law TcodeDeep. The conditions: what the program's Put and Get answer (GetC, PutC). -/
import Derived.Test.YthnkoamabfaioaaZP4
import Derived.Deep.CutBlock
namespace Go.Proofs.Ythnkoamabfaioaa.tcodeDeep
open Go.RowKit

/-- Some string, of at most so many bytes. -/
def SomeStr (m : Nat) (w : World) (e : Ending) (w' : World) : Prop := ∃ t : ByteArray, t.size ≤ m ∧ e = .returned (.string t) ∧ w = w'
theorem add_any (a b : ByteArray) (h : a.size + b.size ≤ 100000) (W : World) : (Op.stringOp .add a b).run Try.prog W = .ok (.string (a ++ b)) W := run_string_add_sum W _ _ (by omega)
theorem size1 (x : UInt8) : (ByteArray.mk #[x]).size = 1 := rfl
theorem size2 (x y : UInt8) : (ByteArray.mk #[x, y]).size = 2 := rfl
theorem size3 (x y z : UInt8) : (ByteArray.mk #[x, y, z]).size = 3 := rfl
theorem size4 (x y z u : UInt8) : (ByteArray.mk #[x, y, z, u]).size = 4 := rfl
theorem size5 (x y z u v : UInt8) : (ByteArray.mk #[x, y, z, u, v]).size = 5 := rfl

/-- At most so many bytes, so deep. -/
def mx : Nat → Nat
  | 0 => 2
  | d + 1 => 2 * mx d + 1
theorem mx_le : ∀ d, 2 ≤ mx d
  | 0 => Nat.le_refl _
  | d + 1 => by have := mx_le d; simp only [mx]; omega
set_option maxRecDepth 100000 in
set_option maxHeartbeats 1000000 in
theorem full_any (d : Nat) : ∀ (D : Int) (w : World), D ≤ d → mx d ≤ 2000 → -10 ≤ D → Calls Try.prog 16 #[.int .i64 D] w (SomeStr (mx d) w) := by
  induction d with
  | zero =>
    intro D w hD _ hD2
    have d0 : decide (D < 1) = true := by simp; omega
    have HE : Hid (SomeStr (mx 0) w (.returned (.string ⟨#[1, 0]⟩)) w) := Lib.hid ⟨_, by show 2 ≤ 2; omega, rfl, rfl⟩
    go_enter Try.func16, Try.ntmps16
    go_wp2_with fail
    go_ret
    exact HE.out
  | succ d ih =>
    intro D w hD hm hD2
    have hm' : mx d ≤ 999 := by simp only [mx] at hm; omega
    by_cases h1 : D < 1
    · have d0 : decide (D < 1) = true := by simpa using h1
      have HE : Hid (SomeStr (mx (d + 1)) w (.returned (.string ⟨#[1, 0]⟩)) w) := Lib.hid ⟨_, by show 2 ≤ _; exact mx_le _, rfl, rfl⟩
      clear ih hD hm
      go_enter Try.func16, Try.ntmps16
      go_wp2_with fail
      go_ret
      exact HE.out
    · have d0 : decide (D < 1) = false := by simpa using h1
      have HI : Hid (∀ W, Calls Try.prog 16 #[.int .i64 (D - 1)] W (SomeStr (mx d) W)) := Lib.hid (fun W => ih (D - 1) W (by omega) (by omega) (by omega))
      have hDl : D ≤ 2000 := by
        have : ∀ d, d ≤ mx d := fun d => by induction d with | zero => exact Nat.zero_le _ | succ d ih => simp only [mx]; omega
        have := this (d + 1)
        omega
      have HX : Hid (mx (d + 1) = 2 * mx d + 1) := Lib.hid rfl
      clear ih hD hm
      go_enter Try.func16, Try.ntmps16
      go_wp2_with fail
      refine (HI.out _).mono ?_
      rintro e w1 ⟨t1, z1, rfl, rfl⟩
      have a1 := add_any ⟨#[4]⟩ t1 (by rw [size1]; omega)
      go_wp2_with fail
      refine (HI.out _).mono ?_
      rintro e w1 ⟨t2, z2, rfl, rfl⟩
      have zz : (⟨#[4]⟩ ++ t1).size ≤ 1000 := by rw [ByteArray.size_append, size1]; omega
      have a2 := add_any (⟨#[4]⟩ ++ t1) t2 (by omega)
      have HE : Hid (SomeStr (mx (d + 1)) w (.returned (.string (⟨#[4]⟩ ++ t1 ++ t2))) w) := Lib.hid ⟨_, by rw [HX.out, ByteArray.size_append, ByteArray.size_append, size1]; omega, rfl, rfl⟩
      clear zz z1 z2
      go_wp2_with fail
      go_ret
      exact HE.out
theorem full9 (D : Int) (w : World) (h0 : -10 ≤ D) (h : D ≤ 9) : Calls Try.prog 16 #[.int .i64 D] w (SomeStr 1600 w) :=
  (full_any 9 D w (by omega) (by decide) h0).mono (by rintro e w' ⟨t, h1, h2, h3⟩; exact ⟨t, Nat.le_trans h1 (by decide), h2, h3⟩)

/-- The table that the law reads. -/
def tab : Array Value := #[.string ⟨#[4, 1, 0]⟩, .string ⟨#[5, 2, 1]⟩, .string ⟨#[7, 2, 1, 2, 1]⟩]
theorem tab_at (x : Int) (h0 : 0 ≤ x) (h : x < 3) : ∃ y : ByteArray, y.size ≤ 5 ∧ tab[x.toNat]? = some (.string y) := by
  have h : x.toNat < 3 := by omega
  generalize x.toNat = i at h
  match i, h with
  | 0, _ => exact ⟨⟨#[4, 1, 0]⟩, by decide, rfl⟩
  | 1, _ => exact ⟨⟨#[5, 2, 1]⟩, by decide, rfl⟩
  | 2, _ => exact ⟨⟨#[7, 2, 1, 2, 1]⟩, by decide, rfl⟩
theorem tab_cell (wr : World) (x : Int) (y : ByteArray) (h : tab[x.toNat]? = some (.string y)) :
    (wr.alloc (.cells #[.string ⟨#[4, 1, 0]⟩, .string ⟨#[5, 2, 1]⟩, .string ⟨#[7, 2, 1, 2, 1]⟩] 9)).cell? ⟨wr.heap.size, x.toNat, none⟩ = some (.string y) := by
  have := World.cell?_alloc_mark wr tab 9 (0, 0) x.toNat
  rw [h] at this
  exact this

/-- A slice of two bytes that was just laid, turned into a string. -/
theorem conv2 (x y : Int) (wr : World) : (convert 24 9 (.slice (some ⟨wr.heap.size, 0, none⟩) 2 2)).run Try.prog (wr.alloc (.cells #[.int .u8 x, .int .u8 y] 5)) = .ok (.string (strOfNums [x, y])) (wr.alloc (.cells #[.int .u8 x, .int .u8 y] 5)) :=
  run_convert_bytes_arg _ 24 5 Try.underlying24 Try.underlying5 wr.heap.size 0 2 2 [x, y] rfl (fun i hi => by
    have : i = 0 ∨ i = 1 := by omega
    rcases this with rfl | rfl <;> simp) 9 Try.underlying9

set_option maxRecDepth 100000 in
set_option maxHeartbeats 8000000 in
theorem walk (hG : GetC) (hP : PutC) (n h : Int) (hn0 : 0 ≤ n) (hn1 : n < 256) (hh0 : 0 ≤ h) (hh1 : h < 256) (w : World) :
    Calls Try.prog 6 #[.int .u8 n, .int .u8 h] w fun e w' => e = .returned (.bool true) ∧ Below w.heap.size w w' := by
  go_enter Try.func6, Try.ntmps6
  go_upto_block 0 with fail
  go_cut [5, 6, 7] from 9 to 72 (fun s5 s6 s7 wx => ∃ t : ByteArray, t.size ≤ 2000 ∧ s5 = .string t ∧ Hid (Below w.heap.size w wx))
  case first =>
    have hc : h % 3 = 0 ∨ h % 3 = 1 ∨ h % 3 = 2 := by omega
    rcases hc with e | e | e <;> rw [e] <;> clear e
    · have e1 : h.tdiv 3 = h / 3 := Int.tdiv_eq_ediv_of_nonneg hh0
      have e2 : (h / 3).tmod 3 = h / 3 % 3 := Int.tmod_eq_emod_of_nonneg (by omega)
      go_wp2_with fail
      go_loopw [5, 6] (fun s i wr => ∃ (k : Nat) (t : ByteArray), k ≤ 34 ∧ t.size ≤ 5 * k ∧ i = .int .i64 k ∧ s = .string t ∧ Below w.heap.size w wr) (fun _ i _ => 40 - (intOf i).toNat)
      case atStart => exact ⟨0, ⟨#[]⟩, by omega, by show 0 ≤ 0; omega, rfl, rfl, Below.refl _ _⟩
      case round =>
        obtain ⟨k, t, hk, ht, rfl, rfl, hb⟩ := hrel
        by_cases hlt : (k : Int) < n % 35
        · have dj : decide ((k : Int) < n % 35) = true := by simpa using hlt
          obtain ⟨y, hy5, hy⟩ := tab_at (h / 3 % 3) (by omega) (by omega)
          have hx0 : 0 ≤ h / 3 % 3 := by omega
          have hx3 : h / 3 % 3 < 3 := by omega
          have hc := tab_cell wr (h / 3 % 3) y hy
          have a1 := add_any t y (by omega)
          have HT : Hid ((t ++ y).size ≤ 5 * (k + 1)) := Lib.hid (by rw [ByteArray.size_append]; omega)
          have hk34 : k ≤ 33 := by omega
          have HB := Lib.hid (hb.alloc hb.size (.cells #[.string ⟨#[4, 1, 0]⟩, .string ⟨#[5, 2, 1]⟩, .string ⟨#[7, 2, 1, 2, 1]⟩] 9))
          clear hy hlt hk ht hb
          go_wp2_with fail
          go_roundw
          case rel => exact ⟨k + 1, _, by omega, HT.out, by go_num, rfl, HB.out⟩
          case measure => simp [intOf]; omega
        · have dj : decide ((k : Int) < n % 35) = false := by simpa using hlt
          have a1 := add_any t ⟨#[1, 0]⟩ (by rw [size2]; omega)
          have HT : Hid ((t ++ ⟨#[1, 0]⟩).size ≤ 2000) := Lib.hid (by rw [ByteArray.size_append, size2]; omega)
          have HB := Lib.hid hb
          clear hb hlt hk ht
          go_wp2_with fail
          go_meet
          exact ⟨_, HT.out, rfl, HB⟩
    · go_wp2_with fail
      go_loopw [5, 7] (fun s i wr => ∃ (k : Nat) (t : ByteArray), k ≤ 306 ∧ t.size ≤ 5 * k ∧ i = .int .i64 k ∧ s = .string t ∧ Below w.heap.size w wr) (fun _ i _ => 400 - (intOf i).toNat)
      case atStart => exact ⟨0, ⟨#[]⟩, by omega, by show 0 ≤ 0; omega, rfl, rfl, Below.refl _ _⟩
      case round =>
        obtain ⟨k, t, hk, ht, rfl, rfl, hb⟩ := hrel
        have HB := Lib.hid hb
        clear hb
        by_cases hlt : (k : Int) < 297 + n % 10
        · have dj : decide ((k : Int) < 297 + n % 10) = true := by simpa using hlt
          have hk' : k ≤ 305 := by omega
          have a1 := add_any t ⟨#[4]⟩ (by rw [size1]; omega)
          have a3 := add_any t ⟨#[4, 1, 0]⟩ (by rw [size3]; omega)
          have a4 := add_any (t ++ ⟨#[4, 1, 0]⟩) ⟨#[1, 0]⟩ (by rw [ByteArray.size_append, size3, size2]; omega)
          have HT1 : Hid ((t ++ ⟨#[4]⟩).size ≤ 5 * (k + 1)) := Lib.hid (by rw [ByteArray.size_append, size1]; omega)
          have HT3 : Hid ((t ++ ⟨#[4, 1, 0]⟩).size ≤ 5 * (k + 1)) := Lib.hid (by rw [ByteArray.size_append, size3]; omega)
          have HT4 : Hid ((t ++ ⟨#[4, 1, 0]⟩ ++ ⟨#[1, 0]⟩).size ≤ 5 * (k + 1)) := Lib.hid (by rw [ByteArray.size_append, ByteArray.size_append, size3, size2]; omega)
          clear hlt ht hk
          by_cases h0 : (k : Int) % 20 = 0
          · have h19 : ¬ (k : Int) % 20 = 19 := by omega
            go_wp2_with fail
            go_roundw
            case rel => exact ⟨k + 1, _, by omega, HT1.out, by go_num, rfl, HB.out⟩
            case measure => simp [intOf]; omega
          · by_cases h19 : (k : Int) % 20 = 19
            · go_wp2_with fail
              go_roundw
              case rel => exact ⟨k + 1, _, by omega, HT4.out, by go_num, rfl, HB.out⟩
              case measure => simp [intOf]; omega
            · go_wp2_with fail
              go_roundw
              case rel => exact ⟨k + 1, _, by omega, HT3.out, by go_num, rfl, HB.out⟩
              case measure => simp [intOf]; omega
        · have dj : decide ((k : Int) < 297 + n % 10) = false := by simpa using hlt
          have a1 := add_any t ⟨#[1, 0, 1, 0]⟩ (by rw [size4]; omega)
          have HT : Hid ((t ++ ⟨#[1, 0, 1, 0]⟩).size ≤ 2000) := Lib.hid (by rw [ByteArray.size_append, size4]; omega)
          clear hlt hk ht
          go_wp2_with fail
          go_meet
          exact ⟨_, HT.out, rfl, HB⟩
    · have r0 : 0 ≤ n % 3 := by omega
      have r3 : n % 3 < 3 := by omega
      have hz := conv2 (128 + (1000 + n % 3 - 1) % 128) ((1000 + n % 3 - 1) / 128) w
      have hs : (strOfNums [128 + (1000 + n % 3 - 1) % 128, (1000 + n % 3 - 1) / 128]).size = 2 := by rw [strOfNums_size]; rfl
      have a1 := add_any ⟨#[5, 2, 1, 1]⟩ (strOfNums [128 + (1000 + n % 3 - 1) % 128, (1000 + n % 3 - 1) / 128]) (by rw [size4, hs]; omega)
      have HT : Hid ((⟨#[5, 2, 1, 1]⟩ ++ strOfNums [128 + (1000 + n % 3 - 1) % 128, (1000 + n % 3 - 1) / 128]).size ≤ 2000) := Lib.hid (by rw [ByteArray.size_append, size4, hs]; omega)
      have HB := Lib.hid ((Below.refl w.heap.size w).alloc (Nat.le_refl _) (.cells #[.int .u8 (128 + (1000 + n % 3 - 1) % 128), .int .u8 ((1000 + n % 3 - 1) / 128)] 5))
      clear hs
      go_wp2_with fail
      go_meet
      exact ⟨_, HT.out, rfl, HB⟩
  case rest =>
    obtain ⟨t, ht, rfl, HB0⟩ := hcut
    have Z0 : Hid (t.size ≤ maxLen) := Lib.hid (by unfold maxLen; omega)
    have r8 : n % 8 < 8 := by omega
    have r80 : 0 ≤ n % 8 := by omega
    go_wp2_with fail
    refine (awake14_any hG hP _).mono ?_
    rintro e w1 ⟨rfl, g1⟩
    have HB1 := Lib.hid (Below.step HB0.out g1 (Nat.le_refl _))
    clear g1
    go_wp2_with fail
    refine (get14_any hG _ _ _ Z0.out).mono ?_
    rintro e w2 ⟨rfl, g2⟩
    have HB2 := Lib.hid (Below.step HB1.out g2 (Nat.le_refl _))
    clear g2
    go_wp2_with fail
    refine (full9 _ _ (by omega) (by omega)).mono ?_
    rintro e w3 ⟨t1, z1, rfl, rfl⟩
    have a1 := add_any t1 t (by omega)
    have Z1 : Hid ((t1 ++ t).size ≤ maxLen) := Lib.hid (by rw [ByteArray.size_append]; unfold maxLen; omega)
    clear z1 ht
    go_wp2_with fail
    refine (get14_any hG _ _ _ Z1.out).mono ?_
    rintro e w3 ⟨rfl, g3⟩
    have HB3 := Lib.hid (Below.step HB2.out g3 (Nat.le_refl _))
    clear g3 a1
    go_wp2_with fail
    refine (full9 _ _ (by omega) (by omega)).mono ?_
    rintro e w4 ⟨t2, z2, rfl, rfl⟩
    have a2 := add_any ⟨#[4]⟩ t2 (by rw [size1]; omega)
    have Y2 : Hid ((⟨#[4]⟩ ++ t2).size ≤ 1601) := Lib.hid (by rw [ByteArray.size_append, size1]; omega)
    clear z2
    go_wp2_with fail
    refine (full9 _ _ (by omega) (by omega)).mono ?_
    rintro e w4 ⟨t3, z3, rfl, rfl⟩
    have a3 := add_any (⟨#[4]⟩ ++ t2) t3 (by have := Y2.out; omega)
    have Z3 : Hid ((⟨#[4]⟩ ++ t2 ++ t3).size ≤ maxLen) := Lib.hid (by have := Y2.out; rw [ByteArray.size_append]; unfold maxLen; omega)
    clear z3
    go_wp2_with fail
    refine (get14_any hG _ _ _ Z3.out).mono ?_
    rintro e w4 ⟨rfl, g4⟩
    have HB4 := Lib.hid (Below.step HB3.out g4 (Nat.le_refl _))
    clear g4
    go_wp2_with fail
    go_ret
    exact ⟨rfl, HB4.out⟩
end Go.Proofs.Ythnkoamabfaioaa.tcodeDeep
