/- For every slice of bytes the law LcodeSmall returns true: over the strings that it makes of its first twenty bytes the program's Get and the document's give the same answers. No condition. -/
import Derived.Test.YtcgeipcffhfclaaAwake3
import Derived.Test.YtcgeipcffhfclaaOpen3
import Derived.Carry
namespace Go.Proofs.Ytcgeipcffhfclaa.lcodeSmall
open Go.ChangeShapes Go.WideShapes Go.ChangeAt Go.RowKit

/-- The table that the law reads. -/
def tab : Array Value := #[.int .u8 1, .int .u8 2, .int .u8 3, .int .u8 4, .int .u8 5, .int .u8 6, .int .u8 0, .int .u8 7, .int .u8 10, .int .u8 128, .int .u8 1, .int .u8 3]
theorem tab_at (x : Int) : ∃ y : Int, tab[(x % 12).toNat]? = some (.int .u8 y) := by
  have h : (x % 12).toNat < 12 := by omega
  generalize (x % 12).toNat = i at h
  match i, h with
  | 0, _ => exact ⟨1, rfl⟩
  | 1, _ => exact ⟨2, rfl⟩
  | 2, _ => exact ⟨3, rfl⟩
  | 3, _ => exact ⟨4, rfl⟩
  | 4, _ => exact ⟨5, rfl⟩
  | 5, _ => exact ⟨6, rfl⟩
  | 6, _ => exact ⟨0, rfl⟩
  | 7, _ => exact ⟨7, rfl⟩
  | 8, _ => exact ⟨10, rfl⟩
  | 9, _ => exact ⟨128, rfl⟩
  | 10, _ => exact ⟨1, rfl⟩
  | 11, _ => exact ⟨3, rfl⟩
theorem tab_cell (wr : World) (x y : Int) (h : tab[(x % 12).toNat]? = some (.int .u8 y)) :
    (wr.alloc (.cells #[.int .u8 1, .int .u8 2, .int .u8 3, .int .u8 4, .int .u8 5, .int .u8 6, .int .u8 0, .int .u8 7, .int .u8 10, .int .u8 128, .int .u8 1, .int .u8 3] 5)).cell? ⟨wr.heap.size, (x % 12).toNat, none⟩ = some (.int .u8 y) := by
  have := World.cell?_alloc_mark wr tab 5 (0, 0) (x % 12).toNat
  rw [h] at this
  exact this
theorem old_cell (wr : World) (C : Array Value) (b i : Nat) (v : Value) (hb : b < wr.heap.size) (h : wr.cell? ⟨b, i, none⟩ = some v) : (wr.alloc (.cells C 5)).cell? ⟨b, i, none⟩ = some v :=
  (((Below.refl wr.heap.size wr).alloc (Nat.le_refl _) (.cells C 5)).cell (p := ⟨b, i, none⟩) hb).trans h

theorem own : ownKnob Try.prog.godebug = none := by kernel_rfl

set_option maxRecDepth 100000 in
set_option maxHeartbeats 1000000 in
theorem walk (len cap : Nat) (a : Option Addr) (w : World) (hin : U8In w (· < w.heap.size) len a cap) :
    Calls Try.prog 4 #[.slice a len cap] w fun e w' => e = .returned (.bool true) ∧ Below w.heap.size w w' := by
  have hm : len ≤ 9223372036854775807 := by have h1 := hin.1; have h2 := hin.2.1; unfold maxLen at h2; omega
  go_enter Try.func4, Try.ntmps4
  go_wp2_with fail
  go_loopw [3, 4] (fun s i wr => ∃ (k : Nat) (pre : List Int), k ≤ 20 ∧ k ≤ len ∧ i = .int .i64 k ∧ s = .string (strOfNums pre) ∧ pre.length = k ∧ Below w.heap.size w wr) (fun _ i _ => 20 - (intOf i).toNat)
  case atStart => exact ⟨0, [], by omega, by omega, rfl, rfl, rfl, Below.refl _ _⟩
  case round =>
    obtain ⟨k, pre, hk, hkl, rfl, rfl, hpl, hb⟩ := hrel
    by_cases hlt : k < len ∧ k < 20
    · obtain ⟨hl1, hl2⟩ := hlt
      have hl2' : (k : Int) < 20 := by omega
      obtain ⟨b, off, x, rfl, hbl, hx1, hx2, hc0⟩ := hin.at hl1
      have hc := (hb.cell (p := ⟨b, off + k, none⟩) hbl).trans hc0
      have HP := Lib.hid hpl
      clear hpl hc0
      obtain ⟨y, hy⟩ := tab_at x
      have ht := tab_cell wr x y hy
      have ho := old_cell wr #[.int .u8 1, .int .u8 2, .int .u8 3, .int .u8 4, .int .u8 5, .int .u8 6, .int .u8 0, .int .u8 7, .int .u8 10, .int .u8 128, .int .u8 1, .int .u8 3] b (off + k) _ (Nat.lt_of_lt_of_le hbl hb.size) hc
      have h8 : x % 12 < 12 := by omega
      have h80 : 0 ≤ x % 12 := by omega
      clear hy hc
      have hc1 := conv1 y (wr.alloc (.cells #[.int .u8 1, .int .u8 2, .int .u8 3, .int .u8 4, .int .u8 5, .int .u8 6, .int .u8 0, .int .u8 7, .int .u8 10, .int .u8 128, .int .u8 1, .int .u8 3] 5))
      rw [World.size_alloc] at hc1
      have ha := add_nums pre [y] (by have := HP.out; omega) (by simp)
      go_wp2
      go_roundw
      case rel => exact ⟨k + 1, pre ++ [y], by omega, by omega, by go_num, rfl, by simp [HP.out], (hb.alloc hb.size _).alloc (by have := hb.size; simp; omega) _⟩
      case measure => simp [intOf]; omega
    · have hS : (strOfNums pre).size ≤ 20 := by rw [strOfNums_size]; omega
      have z1 : (ByteArray.mk #[2]).size = 1 := rfl
      have z3 : (ByteArray.mk #[1, 1, 1]).size = 3 := rfl
      have hS2 : (⟨#[2]⟩ ++ strOfNums pre).size ≤ 21 := by rw [ByteArray.size_append]; omega
      have h1 : ∀ W, (Op.stringOp .add ⟨#[2]⟩ (strOfNums pre)).run Try.prog W = .ok (.string (⟨#[2]⟩ ++ strOfNums pre)) W := fun W => run_string_add_sum W _ _ (by omega)
      have h2 : ∀ W, (Op.stringOp .add (⟨#[2]⟩ ++ strOfNums pre) ⟨#[1, 1, 1]⟩).run Try.prog W = .ok (.string (⟨#[2]⟩ ++ strOfNums pre ++ ⟨#[1, 1, 1]⟩)) W := fun W => run_string_add_sum W _ _ (by omega)
      have Z2 : Hid ((⟨#[2]⟩ ++ strOfNums pre ++ ⟨#[1, 1, 1]⟩).size ≤ maxLen) := Lib.hid (by rw [ByteArray.size_append]; unfold maxLen; omega)
      have Z0 : Hid ((strOfNums pre).size ≤ maxLen) := Lib.hid (by unfold maxLen; omega)
      clear hS hS2 hpl z1 z3
      by_cases hl1 : k < len
      · have hl2 : ¬ (k : Int) < 20 := by omega
        clear hlt
        go_wp2_with fail
        refine (awake3_any _).mono ?_
        rintro e w1 ⟨rfl, g1⟩
        go_wp2_with fail
        refine (get3_any _ _ _ Z0.out).mono ?_
        rintro e w2 ⟨rfl, g2⟩
        have G2 := Lib.hid (Below.step g1 g2 (Nat.le_refl _))
        go_wp2_with fail
        refine (get3_any _ _ _ Z2.out).mono ?_
        rintro e w3 ⟨rfl, g3⟩
        have G3 := Lib.hid (Below.step G2.out g3 (Nat.le_refl _))
        go_wp2_with fail
        go_ret
        exact ⟨rfl, hb.trans (G3.out.mono hb.size)⟩
      · clear hlt
        go_wp2_with fail
        refine (awake3_any _).mono ?_
        rintro e w1 ⟨rfl, g1⟩
        go_wp2_with fail
        refine (get3_any _ _ _ Z0.out).mono ?_
        rintro e w2 ⟨rfl, g2⟩
        have G2 := Lib.hid (Below.step g1 g2 (Nat.le_refl _))
        go_wp2_with fail
        refine (get3_any _ _ _ Z2.out).mono ?_
        rintro e w3 ⟨rfl, g3⟩
        have G3 := Lib.hid (Below.step G2.out g3 (Nat.le_refl _))
        go_wp2_with fail
        go_ret
        exact ⟨rfl, hb.trans (G3.out.mono hb.size)⟩

set_option maxRecDepth 100000 in
theorem lifted (os : Os) (started : os.Started) (H : Type) (enc : TypeId × Value → H) :
    ReturnsInHanded {} Try.checked os 4 .any (Rows.lcodeSmallSpec.pre6 enc Try.prog Try.f4 Rows.lcodeSmallRow.domain false) (Rows.lcodeSmallSpec.post enc Try.prog Try.f4 false true false false) := by
  refine returnsInHanded_of_change (C := Try.checked) own started (by kernel_rfl) Try.func4
    (ChangeSpec.witness6 (enc := enc) (C := Try.checked) false ⟨#[], #[.slice none 0 0], []⟩ 8 (by kernel_rfl) (by kernel_rfl) (by kernel_rfl) (by kernel_rfl)) ?_
  intro W base args ds gs before hval0 hW hcnd _
  have hval : ∀ (j : Nat) t v, Try.f4.params[j]? = some t → args[j]? = some v → Value.okWide Try.prog W .any base t v := hval0
  have hW' := hW
  obtain ⟨p, q, hA0, hV, rfl, hfz, hnd⟩ := hW
  have hA : DataW.TrodAll enc Try.prog W 0 (fun _ => true) true Try.f4.params.toList args.toList ds p := hA0
  rw [Try.params4] at hA hval
  obtain ⟨v0, d0, rfl, rfl, h0⟩ := trodAll_one hA
  obtain ⟨rfl, rfl⟩ := trodVars_none hV
  obtain ⟨n1, a1, c1, rfl, hs0⟩ := arg_bytes (hval 0 24 v0 rfl rfl) h0
  clear hA0 hval0
  simp only [List.append_nil] at hW'
  have hlt : ∀ x ∈ p, x.block < W.heap.size := fun x hx => by simpa using hW'.lt x hx
  refine (walk n1 c1 a1 W hs0).mono fun e W' ⟨he, hb⟩ => ?_
  subst he
  exact ⟨_, rfl, ⟨_, _, _, [], _, [], hW', trodAll_mk1 (shut_bool Try.underlying4 _), trodAll_mk1 (Below.trod laidOut (by kernel_rfl) (of_decide_eq_true (by kernel_rfl)) h0 hb hlt), rfl, hb.frame _, fun h => by cases h⟩⟩

theorem over : Rows.lcodeSmallRow.holds Try.pinned (OpenSpec.ofChange Rows.lcodeSmallSpec) :=
  OpenClaim.holds_of_wide 4 Try.f4 rfl rfl rfl rfl rfl rfl rfl ⟨rfl, rfl, rfl, rfl, rfl⟩ rfl rfl rfl rfl rfl (by kernel_rfl) Try.func4 (by kernel_rfl)
    (of_decide_eq_true (by kernel_rfl)) (by unfold Func.isWrapper; first | (rw [if_pos (by decide +kernel)]; kernel_rfl) | (rw [if_neg (by decide +kernel)]; exact ⟨rfl, rfl⟩))
    (fun os started H enc _ => lifted os started H enc)

/-- THE STATEMENT -/
theorem proved : Rows.LcodeSmallSaid :=
  over
#print axioms proved
end Go.Proofs.Ytcgeipcffhfclaa.lcodeSmall
