/- The contracts of Made (some right level, at most five deep) and of Values (so many numbers below 9), both in new memory. -/
import Derived.Test.YtlbflfijihbmdaaMaker2
import Derived.Deep.OwnRows
namespace Go.Proofs.Ytlbflfijihbmdaa
open Go.RowKit

/-- What Made answers. -/
def MadeOk (w : World) (e : Ending) (w' : World) : Prop :=
  ∃ (k n : Int) (F : Fo) (x : Option Addr) (c : Nat), e = .returned (.agg #[.int .i64 k, .int .i64 n, .slice x F.len c]) ∧ LvOk 5 k n F ∧ SlIn w' (fun b => w.heap.size ≤ b ∧ b < w'.heap.size) F x c ∧ Below w.heap.size w w'
set_option maxRecDepth 100000 in
set_option maxHeartbeats 2000000 in
theorem made_any (len cap B : Nat) (a : Option Addr) (w : World) (hin : U8In w (· < B) len a cap) (hB : B ≤ w.heap.size) :
    Calls Try.prog 15 #[.slice a len cap, .int .i64 3, .int .i64 2] w (MadeOk w) := by
  have hb0 : Below w.heap.size w ((w.alloc (.cells #[.int .i64 0, .int .i64 0, .slice none 0 0] 24)).alloc (.cells #[.slice a len cap, .int .i64 0] 49)) := ((Below.refl _ _).alloc (Nat.le_refl _) _).alloc (by simp) _
  have hat : MkAt ((w.alloc (.cells #[.int .i64 0, .int .i64 0, .slice none 0 0] 24)).alloc (.cells #[.slice a len cap, .int .i64 0] 49)) (w.heap.size + 1) a len cap 0 := heap_second _ _ _
  have hR0 : ((w.alloc (.cells #[.int .i64 0, .int .i64 0, .slice none 0 0] 24)).alloc (.cells #[.slice a len cap, .int .i64 0] 49)).heap[w.heap.size]? = some (.cells #[.int .i64 0, .int .i64 0, .slice none 0 0] 24 (0, 0)) := (heap_old _ _ (by simp)).trans (heap_new _ _)
  have HR0 := Lib.hid hR0
  clear hR0
  go_enter Try.func15, Try.ntmps15
  go_wp2_with fail
  refine (mLevel_any 4 (w.heap.size + 1) len cap 0 B a 5 _ hat (hin.below (hb0.mono hB)) (by omega) (by decide) (by omega) (by omega)).mono ?_
  rintro e w1 ⟨k, n, F, x, c, t', rfl, hok, hs, hat1, _, hg⟩
  have hR1 := (Only.block hg (b := w.heap.size) (by simp; omega) (by omega)).trans HR0.out
  obtain ⟨r0, r1, r2⟩ := cells3 hR1
  have rf := free_of hR1
  have hlt := lt_of_block hR1
  have hz := hg.size
  simp at hz
  have hb1 : Below w.heap.size w w1 := hb0.trans ⟨hg.os, hg.tape, hg.output, hg.size, fun b hb => Only.block hg (by simp; omega) (by omega)⟩
  have hs1 : SlIn w1 (fun b => w.heap.size + 1 ≤ b ∧ b < w1.heap.size) F x c := hs.weak (fun b hb => ⟨by have := hb.1; simp at this; omega, hb.2⟩)
  have HX := Lib.hid (⟨hok, hs1, hb1⟩ : LvOk 5 k n F ∧ SlIn w1 (fun b => w.heap.size + 1 ≤ b ∧ b < w1.heap.size) F x c ∧ Below w.heap.size w w1)
  clear hok hs hat1 hg hR1 hb1 hs1 hat hb0
  go_wp2_with fail
  refine bodyPost_ret (v := .agg #[.int .i64 k, .int .i64 n, .slice x F.len c]) (by simp [results, Try.results15, go_sem, r0, r1, r2]) rfl ?_
  obtain ⟨hok, hs1, hb1⟩ := HX.out
  exact ⟨k, n, F, x, c, rfl, hok, hs1.carry (set3_only _ _ _ _) (by omega) (by omega), ((hb1.setCell (Nat.le_refl _) _).setCell (Nat.le_refl _) _).setCell (Nat.le_refl _) _⟩

theorem infoInt : (Try.prog.info? 3).map (fun i => (i.zero, i.size, i.bytes)) = some (some (.int .i64 0), 1, 8) := by kernel_rfl
theorem make3 (w : World) : (Instr.makeSlice 25 (.int .i64 3) (.int .i64 3)).run Try.prog w = .ok (.slice (some ⟨w.heap.size, 0, none⟩) 3 3) (w.alloc (.cells #[.int .i64 0, .int .i64 0, .int .i64 0] 3)) := by
  have h := run_make_row' (P := Try.prog) 25 3 (.int .i64 0) 8 Try.underlying25 infoInt rfl .i64 .i64 3 (by omega) (by omega) w
  have e : madeCells #[.int .i64 0] 3 = #[.int .i64 0, .int .i64 0, .int .i64 0] := by kernel_rfl
  rw [e] at h
  exact h
theorem make2 (w : World) : (Instr.makeSlice 25 (.int .i64 2) (.int .i64 2)).run Try.prog w = .ok (.slice (some ⟨w.heap.size, 0, none⟩) 2 2) (w.alloc (.cells #[.int .i64 0, .int .i64 0] 3)) := by
  have h := run_make_row' (P := Try.prog) 25 3 (.int .i64 0) 8 Try.underlying25 infoInt rfl .i64 .i64 2 (by omega) (by omega) w
  have e : madeCells #[.int .i64 0] 2 = #[.int .i64 0, .int .i64 0] := by kernel_rfl
  rw [e] at h
  exact h
/-- Three numbers below 9, whole in a block. -/
def Vs3 (w : World) (g : Nat) (v0 v1 v2 : Int) : Prop := w.heap[g]? = some (.cells #[.int .i64 v0, .int .i64 v1, .int .i64 v2] 3 (0, 0))
def Vs2 (w : World) (g : Nat) (v0 v1 : Int) : Prop := w.heap[g]? = some (.cells #[.int .i64 v0, .int .i64 v1] 3 (0, 0))
def Small (v : Int) : Prop := 0 ≤ v ∧ v ≤ 8
def Values3Ok (w : World) (e : Ending) (w' : World) : Prop :=
  ∃ v0 v1 v2 : Int, e = .returned (.slice (some ⟨w.heap.size, 0, none⟩) 3 3) ∧ Small v0 ∧ Small v1 ∧ Small v2 ∧ Vs3 w' w.heap.size v0 v1 v2 ∧ Below w.heap.size w w'
def Values2Ok (w : World) (e : Ending) (w' : World) : Prop :=
  ∃ v0 v1 : Int, e = .returned (.slice (some ⟨w.heap.size, 0, none⟩) 2 2) ∧ Small v0 ∧ Small v1 ∧ Vs2 w' w.heap.size v0 v1 ∧ Below w.heap.size w w'
theorem Vs3.at {w : World} {g j : Nat} {v0 v1 v2 : Int} (h : Vs3 w g v0 v1 v2) (hj : j < 3) : ∃ z, w.cell? ⟨g, j, none⟩ = some (.int .i64 z) ∧ w.frozen? ⟨g, j, none⟩ = false ∧ g < w.heap.size := by
  match j, hj with
  | 0, _ => exact ⟨v0, cell_at h 0, free_of h 0, lt_of_block h⟩
  | 1, _ => exact ⟨v1, cell_at h 1, free_of h 1, lt_of_block h⟩
  | 2, _ => exact ⟨v2, cell_at h 2, free_of h 2, lt_of_block h⟩
theorem Vs3.set {w : World} {g j : Nat} {v0 v1 v2 : Int} (h : Vs3 w g v0 v1 v2) (hj : j < 3) (z : Int) : Vs3 (w.setCell ⟨g, j, none⟩ (.int .i64 z)) g (if j = 0 then z else v0) (if j = 1 then z else v1) (if j = 2 then z else v2) := by
  unfold Vs3 at *
  match j, hj with
  | 0, _ => simp only [World.setCell, Array.getElem?_modify, if_true, h]; rfl
  | 1, _ => simp only [World.setCell, Array.getElem?_modify, if_true, h]; rfl
  | 2, _ => simp only [World.setCell, Array.getElem?_modify, if_true, h]; rfl
theorem Vs2.at {w : World} {g j : Nat} {v0 v1 : Int} (h : Vs2 w g v0 v1) (hj : j < 2) : ∃ z, w.cell? ⟨g, j, none⟩ = some (.int .i64 z) ∧ w.frozen? ⟨g, j, none⟩ = false ∧ g < w.heap.size := by
  match j, hj with
  | 0, _ => exact ⟨v0, cell_at h 0, free_of h 0, lt_of_block h⟩
  | 1, _ => exact ⟨v1, cell_at h 1, free_of h 1, lt_of_block h⟩
theorem Vs2.set {w : World} {g j : Nat} {v0 v1 : Int} (h : Vs2 w g v0 v1) (hj : j < 2) (z : Int) : Vs2 (w.setCell ⟨g, j, none⟩ (.int .i64 z)) g (if j = 0 then z else v0) (if j = 1 then z else v1) := by
  unfold Vs2 at *
  match j, hj with
  | 0, _ => simp only [World.setCell, Array.getElem?_modify, if_true, h]; rfl
  | 1, _ => simp only [World.setCell, Array.getElem?_modify, if_true, h]; rfl
theorem small_ite {p : Prop} [Decidable p] {z v : Int} (hz : Small z) (hv : Small v) : Small (if p then z else v) := by split <;> assumption
set_option maxRecDepth 100000 in
set_option maxHeartbeats 2000000 in
theorem values3_any (len cap B : Nat) (a : Option Addr) (w : World) (hin : U8In w (· < B) len a cap) (hB : B ≤ w.heap.size) :
    Calls Try.prog 16 #[.slice a len cap, .int .i64 3] w (Values3Ok w) := by
  have hl : len ≤ 9223372036854775807 := by have h1 := hin.1; have h2 := hin.2.1; unfold maxLen at h2; omega
  have hmk := make3
  go_enter Try.func16, Try.ntmps16
  go_wp2_with fail
  go_loopw [6] (fun i wr => ∃ (j : Nat) (v0 v1 v2 : Int), i = .int .i64 j ∧ j ≤ 3 ∧ Hid (Small v0 ∧ Small v1 ∧ Small v2) ∧ Hid (Vs3 wr w.heap.size v0 v1 v2) ∧ Below w.heap.size w wr) (fun i _ => 3 - (intOf i).toNat)
  case atStart => exact ⟨0, 0, 0, 0, rfl, by omega, Lib.hid ⟨⟨by omega, by omega⟩, ⟨by omega, by omega⟩, ⟨by omega, by omega⟩⟩, Lib.hid (heap_new _ _), (Below.refl _ _).alloc (Nat.le_refl _) _⟩
  case round =>
    obtain ⟨j, v0, v1, v2, rfl, hj, hsm, hvs, hb⟩ := hrel
    by_cases h1 : j < len
    · by_cases h2 : j < 3
      · obtain ⟨z, y0, y1, y2⟩ := hvs.out.at h2
        obtain ⟨b, o, u, rfl, hbB, u0, u1, hu⟩ := (hin.below (hb.mono hB)).at h1
        have e0 := Int.emod_nonneg u (b := 9) (by omega)
        have e1 := Int.emod_lt_of_pos u (b := 9) (by omega)
        have h2' : (j : Int) < 3 := by omega
        have d1 : decide ((j : Int) < (len : Int)) = true := by simp; omega
        have d2 : decide ((j : Int) < 3) = true := by simp; omega
        have HW := Lib.hid (hvs.out.set h2 (u % 9))
        go_wp2_with fail
        go_roundw
        case rel => exact ⟨j + 1, _, _, _, by go_num, by omega, Lib.hid (by obtain ⟨s0, s1, s2⟩ := hsm.out; exact ⟨small_ite ⟨e0, by omega⟩ s0, small_ite ⟨e0, by omega⟩ s1, small_ite ⟨e0, by omega⟩ s2⟩), HW, hb.setCell (Nat.le_refl _) _⟩
        case measure => simp [intOf]; omega
      · have d1 : decide ((j : Int) < (len : Int)) = true := by simp; omega
        have d2 : decide ((j : Int) < 3) = false := by simp; omega
        go_wp2_with fail
        go_ret
        obtain ⟨s0, s1, s2⟩ := hsm.out
        exact ⟨v0, v1, v2, rfl, s0, s1, s2, hvs.out, hb⟩
    · have d1 : decide ((j : Int) < (len : Int)) = false := by simp; omega
      go_wp2_with fail
      go_ret
      obtain ⟨s0, s1, s2⟩ := hsm.out
      exact ⟨v0, v1, v2, rfl, s0, s1, s2, hvs.out, hb⟩
set_option maxRecDepth 100000 in
set_option maxHeartbeats 2000000 in
theorem values2_any (len cap B : Nat) (a : Option Addr) (w : World) (hin : U8In w (· < B) len a cap) (hB : B ≤ w.heap.size) :
    Calls Try.prog 16 #[.slice a len cap, .int .i64 2] w (Values2Ok w) := by
  have hl : len ≤ 9223372036854775807 := by have h1 := hin.1; have h2 := hin.2.1; unfold maxLen at h2; omega
  have hmk := make2
  go_enter Try.func16, Try.ntmps16
  go_wp2_with fail
  go_loopw [6] (fun i wr => ∃ (j : Nat) (v0 v1 : Int), i = .int .i64 j ∧ j ≤ 2 ∧ Hid (Small v0 ∧ Small v1) ∧ Hid (Vs2 wr w.heap.size v0 v1) ∧ Below w.heap.size w wr) (fun i _ => 2 - (intOf i).toNat)
  case atStart => exact ⟨0, 0, 0, rfl, by omega, Lib.hid ⟨⟨by omega, by omega⟩, ⟨by omega, by omega⟩⟩, Lib.hid (heap_new _ _), (Below.refl _ _).alloc (Nat.le_refl _) _⟩
  case round =>
    obtain ⟨j, v0, v1, rfl, hj, hsm, hvs, hb⟩ := hrel
    by_cases h1 : j < len
    · by_cases h2 : j < 2
      · obtain ⟨z, y0, y1, y2⟩ := hvs.out.at h2
        obtain ⟨b, o, u, rfl, hbB, u0, u1, hu⟩ := (hin.below (hb.mono hB)).at h1
        have e0 := Int.emod_nonneg u (b := 9) (by omega)
        have e1 := Int.emod_lt_of_pos u (b := 9) (by omega)
        have h2' : (j : Int) < 2 := by omega
        have d1 : decide ((j : Int) < (len : Int)) = true := by simp; omega
        have d2 : decide ((j : Int) < 2) = true := by simp; omega
        have HW := Lib.hid (hvs.out.set h2 (u % 9))
        go_wp2_with fail
        go_roundw
        case rel => exact ⟨j + 1, _, _, by go_num, by omega, Lib.hid (by obtain ⟨s0, s1⟩ := hsm.out; exact ⟨small_ite ⟨e0, by omega⟩ s0, small_ite ⟨e0, by omega⟩ s1⟩), HW, hb.setCell (Nat.le_refl _) _⟩
        case measure => simp [intOf]; omega
      · have d1 : decide ((j : Int) < (len : Int)) = true := by simp; omega
        have d2 : decide ((j : Int) < 2) = false := by simp; omega
        go_wp2_with fail
        go_ret
        obtain ⟨s0, s1⟩ := hsm.out
        exact ⟨v0, v1, rfl, s0, s1, hvs.out, hb⟩
    · have d1 : decide ((j : Int) < (len : Int)) = false := by simp; omega
      go_wp2_with fail
      go_ret
      obtain ⟨s0, s1⟩ := hsm.out
      exact ⟨v0, v1, rfl, s0, s1, hvs.out, hb⟩
end Go.Proofs.Ytlbflfijihbmdaa
