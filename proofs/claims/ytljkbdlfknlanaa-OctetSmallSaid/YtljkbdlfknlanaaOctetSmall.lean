/- For every slice of bytes the law OctetSmall returns true: over the strings that it makes of its first eight bytes the program's Get and the document's give the same answers. No condition. -/
import Derived.Test.YtljkbdlfknlanaaRput
import Derived.Test.YtljkbdlfknlanaaRget
import Derived.Test.YtljkbdlfknlanaaAwake
import Derived.Carry
namespace Go.Proofs.Ytljkbdlfknlanaa.octetSmall
open Go.ChangeShapes Go.WideShapes Go.ChangeAt Go.RowKit

/-- The table that the law reads. -/
def tab : Array Value := #[.int .u8 0, .int .u8 1, .int .u8 127, .int .u8 128, .int .u8 129, .int .u8 255, .int .u8 8, .int .u8 136]
theorem tab_at (x : Int) (h0 : 0 ≤ x) : ∃ y : Int, tab[(x % 8).toNat]? = some (.int .u8 y) := by
  have h : (x % 8).toNat < 8 := by omega
  generalize (x % 8).toNat = i at h
  match i, h with
  | 0, _ => exact ⟨0, rfl⟩
  | 1, _ => exact ⟨1, rfl⟩
  | 2, _ => exact ⟨127, rfl⟩
  | 3, _ => exact ⟨128, rfl⟩
  | 4, _ => exact ⟨129, rfl⟩
  | 5, _ => exact ⟨255, rfl⟩
  | 6, _ => exact ⟨8, rfl⟩
  | 7, _ => exact ⟨136, rfl⟩
theorem tab_cell (wr : World) (x y : Int) (h : tab[(x % 8).toNat]? = some (.int .u8 y)) :
    (wr.alloc (.cells #[.int .u8 0, .int .u8 1, .int .u8 127, .int .u8 128, .int .u8 129, .int .u8 255, .int .u8 8, .int .u8 136] 5)).cell? ⟨wr.heap.size, (x % 8).toNat, none⟩ = some (.int .u8 y) := by
  have := World.cell?_alloc_mark wr tab 5 (0, 0) (x % 8).toNat
  rw [h] at this
  exact this
theorem old_cell (wr : World) (C : Array Value) (b i : Nat) (v : Value) (hb : b < wr.heap.size) (h : wr.cell? ⟨b, i, none⟩ = some v) : (wr.alloc (.cells C 5)).cell? ⟨b, i, none⟩ = some v :=
  (((Below.refl wr.heap.size wr).alloc (Nat.le_refl _) (.cells C 5)).cell (p := ⟨b, i, none⟩) hb).trans h

theorem own : ownKnob Try.prog.godebug = none := by kernel_rfl

set_option maxRecDepth 100000 in
set_option maxHeartbeats 1000000 in
theorem walk (b off len cap : Nat) (xs : List Int) (w : World) (hlen : xs.length = len) (hm : len ≤ maxLen) (hbl : b < w.heap.size)
    (hcell : ∀ i, i < len → w.cell? ⟨b, off + i, none⟩ = some (.int .u8 (xs.getD i 0))) (hx : ∀ x ∈ xs, 0 ≤ x ∧ x < 256) :
    Calls Try.prog 5 #[.slice (some ⟨b, off, none⟩) len cap] w fun e w' => e = .returned (.bool true) ∧ Below w.heap.size w w' := by
  have HM := Lib.hid hm
  unfold maxLen at hm
  go_enter Try.func5, Try.ntmps5
  go_wp2_with fail
  go_loopw [3, 4] (fun s i wr => ∃ (k : Nat) (pre : List Int), k ≤ 8 ∧ k ≤ len ∧ i = .int .i64 k ∧ s = .string (strOfNums pre) ∧ pre.length = k ∧ Below w.heap.size w wr) (fun _ i _ => 8 - (intOf i).toNat)
  case atStart => exact ⟨0, [], by omega, by omega, rfl, rfl, rfl, Below.refl _ _⟩
  case round =>
    obtain ⟨k, pre, hk, hkl, rfl, rfl, hpl, hb⟩ := hrel
    by_cases hlt : k < len ∧ k < 8
    · obtain ⟨hl1, hl2⟩ := hlt
      have hl2' : (k : Int) < 8 := by omega
      have hc := (hb.cell (p := ⟨b, off + k, none⟩) hbl).trans (hcell k hl1)
      have hx0 : 0 ≤ xs.getD k 0 ∧ xs.getD k 0 < 256 := by
        rw [List.getD_eq_getElem?_getD, List.getElem?_eq_getElem (by omega)]; exact hx _ (List.getElem_mem _)
      generalize xs.getD k 0 = x at hc hx0
      obtain ⟨hx1, hx2⟩ := hx0
      have HP := Lib.hid hpl
      clear hpl hcell
      obtain ⟨y, hy⟩ := tab_at x hx1
      have ht := tab_cell wr x y hy
      have ho := old_cell wr #[.int .u8 0, .int .u8 1, .int .u8 127, .int .u8 128, .int .u8 129, .int .u8 255, .int .u8 8, .int .u8 136] b (off + k) _ (Nat.lt_of_lt_of_le hbl hb.size) hc
      have HY := Lib.hid hy
      have HO := Lib.hid hc
      have h8 : x % 8 < 8 := by omega
      have h80 : 0 ≤ x % 8 := by omega
      clear hy hc
      have hc1 := conv1 y (wr.alloc (.cells #[.int .u8 0, .int .u8 1, .int .u8 127, .int .u8 128, .int .u8 129, .int .u8 255, .int .u8 8, .int .u8 136] 5))
      rw [World.size_alloc] at hc1
      have ha := add_nums pre [y] (by have := HP.out; omega) (by simp)
      go_wp2
      go_roundw
      case rel => exact ⟨k + 1, pre ++ [y], by omega, by omega, by go_num, rfl, by simp [HP.out], (hb.alloc hb.size _).alloc (by have := hb.size; simp; omega) _⟩
      case measure => simp [intOf]; omega
    · have hS : (strOfNums pre).size ≤ 8 := by rw [strOfNums_size]; omega
      have HS := Lib.hid hS
      have h1 : ∀ W, (Op.stringOp .add (strOfNums pre) ⟨#[1]⟩).run Try.prog W = .ok (.string (strOfNums pre ++ ⟨#[1]⟩)) W := fun W => run_string_add_sum W _ _ (by have : (ByteArray.mk #[1]).size = 1 := rfl; omega)
      have h2 : ∀ W, (Op.stringOp .add ⟨#[128]⟩ (strOfNums pre)).run Try.prog W = .ok (.string (⟨#[128]⟩ ++ strOfNums pre)) W := fun W => run_string_add_sum W _ _ (by have : (ByteArray.mk #[128]).size = 1 := rfl; omega)
      have z1 : Hid ((strOfNums pre ++ ⟨#[1]⟩).size ≤ maxLen) := Lib.hid (by have : (ByteArray.mk #[1]).size = 1 := rfl; rw [ByteArray.size_append]; unfold maxLen; omega)
      have z2 : Hid ((⟨#[128]⟩ ++ strOfNums pre).size ≤ maxLen) := Lib.hid (by have : (ByteArray.mk #[128]).size = 1 := rfl; rw [ByteArray.size_append]; unfold maxLen; omega)
      have z0 : Hid ((strOfNums pre).size ≤ maxLen) := Lib.hid (by unfold maxLen; omega)
      clear hS hpl hcell
      by_cases hl1 : k < len
      · have hl2 : ¬ (k : Int) < 8 := by omega
        clear hlt
        go_wp2_with fail
        refine (awake_any _).mono ?_
        rintro e w1 ⟨rfl, g1⟩
        go_wp2_with fail
        refine (lget_any _ _ _ z0.out).mono ?_
        rintro e w2 ⟨rfl, rfl⟩
        go_wp2_with fail
        refine (lget_any _ _ _ z1.out).mono ?_
        rintro e w2 ⟨rfl, rfl⟩
        go_wp2_with fail
        refine (lget_any _ _ _ z2.out).mono ?_
        rintro e w2 ⟨rfl, rfl⟩
        go_wp2
        go_ret
        exact ⟨rfl, hb.trans (g1.mono hb.size)⟩
      · clear hlt
        go_wp2_with fail
        refine (awake_any _).mono ?_
        rintro e w1 ⟨rfl, g1⟩
        go_wp2_with fail
        refine (lget_any _ _ _ z0.out).mono ?_
        rintro e w2 ⟨rfl, rfl⟩
        go_wp2_with fail
        refine (lget_any _ _ _ z1.out).mono ?_
        rintro e w2 ⟨rfl, rfl⟩
        go_wp2_with fail
        refine (lget_any _ _ _ z2.out).mono ?_
        rintro e w2 ⟨rfl, rfl⟩
        go_wp2
        go_ret
        exact ⟨rfl, hb.trans (g1.mono hb.size)⟩

set_option maxRecDepth 100000 in
set_option maxHeartbeats 1000000 in
theorem walk0 (a : Option Addr) (cap : Nat) (w : World) :
    Calls Try.prog 5 #[.slice a 0 cap] w fun e w' => e = .returned (.bool true) ∧ Below w.heap.size w w' := by
  go_enter Try.func5, Try.ntmps5
  go_wp2_with fail
  go_loop [3, 4] (fun s i => i = .int .i64 0 ∧ s = .string ⟨#[]⟩) (fun _ _ => 0)
  case atStart => exact ⟨rfl, rfl⟩
  case round =>
    obtain ⟨rfl, rfl⟩ := hrel
    have h1 : ∀ W, (Op.stringOp .add ⟨#[]⟩ ⟨#[1]⟩).run Try.prog W = .ok (.string ⟨#[1]⟩) W := fun W => run_string_add_sum W _ _ (by decide)
    have h2 : ∀ W, (Op.stringOp .add ⟨#[128]⟩ ⟨#[]⟩).run Try.prog W = .ok (.string ⟨#[128]⟩) W := fun W => run_string_add_sum W _ _ (by decide)
    go_wp2_with fail
    refine (awake_any _).mono ?_
    rintro e w1 ⟨rfl, g1⟩
    go_wp2_with fail
    refine (lget_any _ _ _ (by show (#[] : Array UInt8).size ≤ _; unfold maxLen; simp)).mono ?_
    rintro e w2 ⟨rfl, rfl⟩
    go_wp2_with fail
    refine (lget_any _ _ _ (by show (#[1] : Array UInt8).size ≤ _; unfold maxLen; simp)).mono ?_
    rintro e w2 ⟨rfl, rfl⟩
    go_wp2_with fail
    refine (lget_any _ _ _ (by show (#[128] : Array UInt8).size ≤ _; unfold maxLen; simp)).mono ?_
    rintro e w2 ⟨rfl, rfl⟩
    go_wp2
    go_ret
    exact ⟨rfl, g1⟩

theorem laidOut : laidOutB Try.prog = true := by kernel_rfl
theorem cellsU8 : Try.prog.cellsOf 5 = 1 := by kernel_rfl
theorem lt_of_cell {W : World} {b i : Nat} {v : Value} (h : W.cell? ⟨b, i, none⟩ = some v) : b < W.heap.size := by
  rcases Nat.lt_or_ge b W.heap.size with h' | h'
  · exact h'
  · have e : W.heap[b]? = none := Array.getElem?_eq_none h'
    simp [World.cell?, e] at h

set_option maxRecDepth 100000 in
theorem lifted (os : Os) (started : os.Started) (H : Type) (enc : TypeId × Value → H) :
    ReturnsInHanded {} Try.checked os 5 .any (Rows.octetSmallSpec.pre6 enc Try.prog Try.f5 Rows.octetSmallRow.domain false) (Rows.octetSmallSpec.post enc Try.prog Try.f5 false true false false) := by
  refine returnsInHanded_of_change (C := Try.checked) own started (by kernel_rfl) Try.func5
    (ChangeSpec.witness6 (enc := enc) (C := Try.checked) false ⟨#[], #[.slice none 0 0], []⟩ 8 (by kernel_rfl) (by kernel_rfl) (by kernel_rfl) (by kernel_rfl)) ?_
  intro W base args ds gs before hval0 hW hcnd _
  have hval : ∀ (j : Nat) t v, Try.f5.params[j]? = some t → args[j]? = some v → Value.okWide Try.prog W .any base t v := hval0
  have hW' := hW
  obtain ⟨p, q, hA0, hV, rfl, hfz, hnd⟩ := hW
  have hA : DataW.TrodAll enc Try.prog W 0 (fun _ => true) true Try.f5.params.toList args.toList ds p := hA0
  rw [Try.params5] at hA hval
  obtain ⟨v0, d0, rfl, rfl, h0⟩ := trodAll_one hA
  obtain ⟨rfl, rfl⟩ := trodVars_none hV
  have h0k := h0
  obtain ⟨fuel, hf⟩ := h0
  clear hA0 hval0
  simp only [List.append_nil] at hW'
  have hlt : ∀ x ∈ p, x.block < W.heap.size := fun x hx => by simpa using hW'.lt x hx
  have key : Calls Try.prog 5 #[v0] W fun e w' => e = .returned (.bool true) ∧ Below W.heap.size W w' := by
    obtain ⟨a0, len, cap, rfl⟩ := okWide_slice Try.underlying29 (hval 0 29 v0 rfl rfl)
    rcases open_ints Try.underlying29 Try.underlying5 cellsU8 hf with ⟨hcs, hx⟩ | ⟨a, len', cap', zs, hcs, _, hl, hm, hz, hx, hcell, hwz⟩
    · simp [Value.cells] at hcs
      obtain ⟨rfl, rfl, rfl⟩ := hcs
      exact walk0 none 0 W
    · simp [Value.cells] at hcs
      obtain ⟨rfl, rfl, rfl⟩ := hcs
      simp only [if_true] at hz
      by_cases hl0 : len = 0
      · subst hl0; exact walk0 _ cap W
      · obtain ⟨b, off, spot⟩ := a
        have hspot : spot = none := by simpa [Addr.add] using World.cell?_spot (hcell 0 (by omega))
        subst hspot
        have hc' : ∀ i, i < len → W.cell? ⟨b, off + i, none⟩ = some (.int .u8 (zs.getD i 0)) := fun i hi => by rw [← add_plain]; exact hcell i (by omega)
        have ht : ∀ i, i < len → (zs.take len).getD i 0 = zs.getD i 0 := fun i hi => by
          rw [List.getD_eq_getElem?_getD, List.getD_eq_getElem?_getD, List.getElem?_take_of_lt hi]
        exact walk b off len cap (zs.take len) W (by simp; omega) (by omega) (lt_of_cell (hc' 0 (by omega))) (fun i hi => by rw [ht i hi]; exact hc' i hi)
          (fun x hx => by
            have hw := hwz x (List.mem_of_mem_take hx)
            have e1 : IntKind.u8.min = 0 := rfl
            have e2 : IntKind.u8.max = 255 := rfl
            simp only [Lit.wf, e1, e2, Bool.and_eq_true, decide_eq_true_eq] at hw
            omega)
  refine key.mono fun e W' ⟨he, hb⟩ => ?_
  subst he
  exact ⟨_, rfl, ⟨_, _, _, [], _, [], hW', trodAll_mk1 (shut_bool Try.underlying4 _), trodAll_mk1 (Below.trod laidOut (by kernel_rfl) (of_decide_eq_true (by kernel_rfl)) h0k hb hlt), rfl, hb.frame _, fun h => by cases h⟩⟩

theorem over : Rows.octetSmallRow.holds Try.pinned (OpenSpec.ofChange Rows.octetSmallSpec) :=
  OpenClaim.holds_of_wide 5 Try.f5 rfl rfl rfl rfl rfl rfl rfl ⟨rfl, rfl, rfl, rfl, rfl⟩ rfl rfl rfl rfl rfl (by kernel_rfl) Try.func5 (by kernel_rfl)
    (of_decide_eq_true (by kernel_rfl)) (by unfold Func.isWrapper; first | (rw [if_pos (by decide +kernel)]; kernel_rfl) | (rw [if_neg (by decide +kernel)]; exact ⟨rfl, rfl⟩))
    (fun os started H enc _ => lifted os started H enc)

/-- THE STATEMENT -/
theorem proved : Rows.OctetSmallSaid :=
  over
#print axioms proved
end Go.Proofs.Ytljkbdlfknlanaa.octetSmall
