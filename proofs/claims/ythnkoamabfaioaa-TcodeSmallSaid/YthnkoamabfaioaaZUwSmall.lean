/- The walk of the law TcodeSmall. The conditions: what the program's Put and Get answer (GetC, PutC). -/
import Derived.Test.YthnkoamabfaioaaZP4
namespace Go.Proofs.Ythnkoamabfaioaa.tcodeSmall
open Go.ChangeShapes Go.WideShapes Go.ChangeAt Go.RowKit

/-- The table that the law reads. -/
def tab : Array Value := #[.int .u8 1, .int .u8 0, .int .u8 2, .int .u8 1, .int .u8 3, .int .u8 4, .int .u8 5, .int .u8 6, .int .u8 7, .int .u8 2, .int .u8 1, .int .u8 1, .int .u8 20, .int .u8 128]
theorem tab_at (x : Int) : ∃ y : Int, tab[(x % 14).toNat]? = some (.int .u8 y) := by
  have h : (x % 14).toNat < 14 := by omega
  generalize (x % 14).toNat = i at h
  match i, h with
  | 0, _ => exact ⟨1, rfl⟩
  | 1, _ => exact ⟨0, rfl⟩
  | 2, _ => exact ⟨2, rfl⟩
  | 3, _ => exact ⟨1, rfl⟩
  | 4, _ => exact ⟨3, rfl⟩
  | 5, _ => exact ⟨4, rfl⟩
  | 6, _ => exact ⟨5, rfl⟩
  | 7, _ => exact ⟨6, rfl⟩
  | 8, _ => exact ⟨7, rfl⟩
  | 9, _ => exact ⟨2, rfl⟩
  | 10, _ => exact ⟨1, rfl⟩
  | 11, _ => exact ⟨1, rfl⟩
  | 12, _ => exact ⟨20, rfl⟩
  | 13, _ => exact ⟨128, rfl⟩
theorem tab_cell (wr : World) (x y : Int) (h : tab[(x % 14).toNat]? = some (.int .u8 y)) :
    (wr.alloc (.cells #[.int .u8 1, .int .u8 0, .int .u8 2, .int .u8 1, .int .u8 3, .int .u8 4, .int .u8 5, .int .u8 6, .int .u8 7, .int .u8 2, .int .u8 1, .int .u8 1, .int .u8 20, .int .u8 128] 5)).cell? ⟨wr.heap.size, (x % 14).toNat, none⟩ = some (.int .u8 y) := by
  have := World.cell?_alloc_mark wr tab 5 (0, 0) (x % 14).toNat
  rw [h] at this
  exact this
theorem old_cell (wr : World) (C : Array Value) (b i : Nat) (v : Value) (hb : b < wr.heap.size) (h : wr.cell? ⟨b, i, none⟩ = some v) : (wr.alloc (.cells C 5)).cell? ⟨b, i, none⟩ = some v :=
  (((Below.refl wr.heap.size wr).alloc (Nat.le_refl _) (.cells C 5)).cell (p := ⟨b, i, none⟩) hb).trans h


set_option maxRecDepth 100000 in
set_option maxHeartbeats 1000000 in
theorem walk (hG : GetC) (hP : PutC) (len cap : Nat) (a : Option Addr) (w : World) (hin : U8In w (· < w.heap.size) len a cap) :
    Calls Try.prog 4 #[.slice a len cap] w fun e w' => e = .returned (.bool true) ∧ Below w.heap.size w w' := by
  have hm : len ≤ 9223372036854775807 := by have h1 := hin.1; have h2 := hin.2.1; unfold maxLen at h2; omega
  go_enter Try.func4, Try.ntmps4
  go_wp2_with fail
  go_loopw [3, 4] (fun s i wr => ∃ (k : Nat) (pre : List Int), k ≤ 24 ∧ k ≤ len ∧ i = .int .i64 k ∧ s = .string (strOfNums pre) ∧ pre.length = k ∧ Below w.heap.size w wr) (fun _ i _ => 24 - (intOf i).toNat)
  case atStart => exact ⟨0, [], by omega, by omega, rfl, rfl, rfl, Below.refl _ _⟩
  case round =>
    obtain ⟨k, pre, hk, hkl, rfl, rfl, hpl, hb⟩ := hrel
    by_cases hlt : k < len ∧ k < 24
    · obtain ⟨hl1, hl2⟩ := hlt
      have hl2' : (k : Int) < 24 := by omega
      obtain ⟨b, off, x, rfl, hbl, hx1, hx2, hc0⟩ := hin.at hl1
      have hc := (hb.cell (p := ⟨b, off + k, none⟩) hbl).trans hc0
      have HP := Lib.hid hpl
      clear hpl hc0
      obtain ⟨y, hy⟩ := tab_at x
      have ht := tab_cell wr x y hy
      have ho := old_cell wr #[.int .u8 1, .int .u8 0, .int .u8 2, .int .u8 1, .int .u8 3, .int .u8 4, .int .u8 5, .int .u8 6, .int .u8 7, .int .u8 2, .int .u8 1, .int .u8 1, .int .u8 20, .int .u8 128] b (off + k) _ (Nat.lt_of_lt_of_le hbl hb.size) hc
      have h8 : x % 14 < 14 := by omega
      have h80 : 0 ≤ x % 14 := by omega
      clear hy hc
      have hc1 := conv1 y (wr.alloc (.cells #[.int .u8 1, .int .u8 0, .int .u8 2, .int .u8 1, .int .u8 3, .int .u8 4, .int .u8 5, .int .u8 6, .int .u8 7, .int .u8 2, .int .u8 1, .int .u8 1, .int .u8 20, .int .u8 128] 5))
      rw [World.size_alloc] at hc1
      have ha := add_nums pre [y] (by have := HP.out; omega) (by simp)
      go_wp2
      go_roundw
      case rel => exact ⟨k + 1, pre ++ [y], by omega, by omega, by go_num, rfl, by simp [HP.out], (hb.alloc hb.size _).alloc (by have := hb.size; simp; omega) _⟩
      case measure => simp [intOf]; omega
    · have hS : (strOfNums pre).size ≤ 24 := by rw [strOfNums_size]; omega
      have z1 : (ByteArray.mk #[4]).size = 1 := rfl
      have z3 : (ByteArray.mk #[1, 0, 1, 0, 1, 0]).size = 6 := rfl
      have hS2 : (⟨#[4]⟩ ++ strOfNums pre).size ≤ 25 := by rw [ByteArray.size_append]; omega
      have h1 : ∀ W, (Op.stringOp .add ⟨#[4]⟩ (strOfNums pre)).run Try.prog W = .ok (.string (⟨#[4]⟩ ++ strOfNums pre)) W := fun W => run_string_add_sum W _ _ (by omega)
      have h2 : ∀ W, (Op.stringOp .add (⟨#[4]⟩ ++ strOfNums pre) ⟨#[1, 0, 1, 0, 1, 0]⟩).run Try.prog W = .ok (.string (⟨#[4]⟩ ++ strOfNums pre ++ ⟨#[1, 0, 1, 0, 1, 0]⟩)) W := fun W => run_string_add_sum W _ _ (by omega)
      have Z2 : Hid ((⟨#[4]⟩ ++ strOfNums pre ++ ⟨#[1, 0, 1, 0, 1, 0]⟩).size ≤ maxLen) := Lib.hid (by rw [ByteArray.size_append]; unfold maxLen; omega)
      have Z0 : Hid ((strOfNums pre).size ≤ maxLen) := Lib.hid (by unfold maxLen; omega)
      clear hS hS2 hpl z1 z3
      by_cases hl1 : k < len
      · have hl2 : ¬ (k : Int) < 24 := by omega
        clear hlt
        go_wp2_with fail
        refine (awake14_any hG hP _).mono ?_
        rintro e w1 ⟨rfl, g1⟩
        go_wp2_with fail
        refine (get14_any hG _ _ _ Z0.out).mono ?_
        rintro e w2 ⟨rfl, g2⟩
        have G2 := Lib.hid (Below.step g1 g2 (Nat.le_refl _))
        go_wp2_with fail
        refine (get14_any hG _ _ _ Z2.out).mono ?_
        rintro e w3 ⟨rfl, g3⟩
        have G3 := Lib.hid (Below.step G2.out g3 (Nat.le_refl _))
        go_wp2_with fail
        go_ret
        exact ⟨rfl, hb.trans (G3.out.mono hb.size)⟩
      · clear hlt
        go_wp2_with fail
        refine (awake14_any hG hP _).mono ?_
        rintro e w1 ⟨rfl, g1⟩
        go_wp2_with fail
        refine (get14_any hG _ _ _ Z0.out).mono ?_
        rintro e w2 ⟨rfl, g2⟩
        have G2 := Lib.hid (Below.step g1 g2 (Nat.le_refl _))
        go_wp2_with fail
        refine (get14_any hG _ _ _ Z2.out).mono ?_
        rintro e w3 ⟨rfl, g3⟩
        have G3 := Lib.hid (Below.step G2.out g3 (Nat.le_refl _))
        go_wp2_with fail
        go_ret
        exact ⟨rfl, hb.trans (G3.out.mono hb.size)⟩

end Go.Proofs.Ythnkoamabfaioaa.tcodeSmall
