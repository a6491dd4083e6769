/- How many variables a law takes; blocks of numbers. No condition but those that stand in each statement. -/
import Derived.Test.YtglggigndhbpcaaZOwn
import Derived.Test.YtglggigndhbpcaaZBase
import Derived.Deep.OwnRows
import Derived.IntWalk
namespace Go.Proofs.Ytglggigndhbpcaa
open Go.RowKit

/-- How many variables. -/
def varsN (n : Int) : Nat := 1 + (n % 8).toNat
theorem varsN_bd (n : Int) : 1 ≤ varsN n ∧ varsN n ≤ 8 := by unfold varsN; omega
set_option maxHeartbeats 1000000 in
theorem vars8_any (n : Int) (h0 : 0 ≤ n) (h1 : n < 256) (w : World) : Calls Try.prog 18 #[.int .u8 n] w fun e w' => e = .returned (.int .i64 (varsN n)) ∧ w = w' := by
  have HV : Hid ((varsN n : Int) = 1 + n % 8) := Lib.hid (by unfold varsN; omega)
  go_enter Try.func18, Try.ntmps18
  go_wp2_with fail
  go_ret
  exact ⟨by rw [HV.out]; rfl, rfl⟩

/-- The block g holds these numbers, and nothing else. -/
def NumB (w : World) (g : Nat) (m : List Int) : Prop := w.heap[g]? = some (.cells ((m.map (Value.int .i64)).toArray) 3 (0, 0))
theorem NumB.lt {w : World} {g : Nat} {m : List Int} (h : NumB w g m) : g < w.heap.size := lt_of_block h
theorem NumB.at {w : World} {g : Nat} {m : List Int} (h : NumB w g m) {i : Nat} (hi : i < m.length) : w.cell? ⟨g, i, none⟩ = some (.int .i64 (m.getD i 0)) := by
  rw [cell_at h]
  simp [List.getD_eq_getElem?_getD, hi]
theorem NumB.set {w : World} {g : Nat} {m : List Int} (h : NumB w g m) (i : Nat) (z : Int) : NumB (w.setCell ⟨g, i, none⟩ (.int .i64 z)) g (m.set i z) := by
  have := heap_setCell_same w g i _ _ (.int .i64 z) h
  unfold NumB
  rw [this, List.map_set]
  simp
theorem NumB.ints {w : World} {g cap : Nat} {m : List Int} (h : NumB w g m) (h1 : m.length ≤ cap) (h2 : cap ≤ 1000000) : IntsIn w (· < w.heap.size) m (some ⟨g, 0, none⟩) cap :=
  .mk h1 h2 h.lt (fun i hi => by rw [Nat.zero_add]; exact h.at hi)
theorem h_infoInt : (Try.prog.info? 3).map (fun i => (i.zero, i.size, i.bytes)) = some (some (.int .i64 0), 1, 8) := by kernel_rfl
set_option maxRecDepth 100000 in
theorem make_nums (V : Nat) (hV : V ≤ 1000) (w : World) : (Instr.makeSlice 23 (.int .i64 V) (.int .i64 V)).run Try.prog w = .ok (.slice (some ⟨w.heap.size, 0, none⟩) V V) (w.alloc (.cells ((List.replicate V (0 : Int)).map (Value.int .i64)).toArray 3)) := by
  have h := run_make_row' (P := Try.prog) 23 3 (.int .i64 0) 8 Try.underlying23 h_infoInt rfl .i64 .i64 V (by omega) (by omega) w
  rw [h]
  congr 3
  apply Array.toList_inj.1
  rw [toList_madeCells_one]
  simp
end Go.Proofs.Ytglggigndhbpcaa
