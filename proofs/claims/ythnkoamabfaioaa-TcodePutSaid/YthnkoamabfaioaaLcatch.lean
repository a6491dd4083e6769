/- The contracts of the function that Get defers: where nothing panics it turns nothing; where the reading has panicked with an error it lays zero values and the error into the results. -/
import Derived.Test.YthnkoamabfaioaaLrd
import Derived.Defers
import Derived.Recover
import Derived.RegionTactic
import Derived.BigRegion
import Derived.ChangeAlike
namespace Go.Proofs.Ythnkoamabfaioaa
open Go.RowKit

set_option maxRecDepth 100000 in
set_option maxHeartbeats 1000000 in
theorem catch_idle (p q r : Addr) (w : World) :
    CallsD Try.prog 98 #[.pointer (some p), .pointer (some q), .pointer (some r)] .returning w fun e u' w' => e = .returned (.tuple #[]) ∧ u' = .returning ∧ w' = w := by
  refine callsD_of_wpS Try.func98 rfl fun c₀ cs hu => ?_
  apply wpS_seq
  apply wpS_region
  simp [wpOpsS, go_sem, recoverD, hu, Try.ntmps98, Exit.thenS]
  refine wpS_of_wp ?_
  change Code.wp Try.prog _ _ { tmps := #[.pointer (some p), .pointer (some q), .pointer (some r), .nilIface, undef, undef, .nilIface, undef, undef, undef, undef, undef, undef, undef, undef, undef, undef, undef, undef, undef], defers := [] } w
  go_wp2
  cases c₀
  simp_all [bodyPostS, results, Try.results98]

/-- The three results, when an error has been laid into them. -/
def FaultAt (L er : Nat) (w : World) : Prop := w.heap[L]? = some (.cells #[.int .i64 0, .int .i64 0, .slice none 0 0] 33 (0, 0)) ∧ w.heap[L + 1]? = some (.cells #[.int .i64 0] 3 (0, 0)) ∧ w.heap[L + 2]? = some (.cells #[.int .i64 er] 35 (0, 0))
theorem set1 {w : World} {b : Nat} {x x' : Value} {t : TypeId} (h : w.heap[b]? = some (.cells #[x] t (0, 0))) : (w.setCell ⟨b, 0, none⟩ x').heap[b]? = some (.cells #[x'] t (0, 0)) := by
  simp only [World.setCell, Array.getElem?_modify, if_true, h]; rfl
theorem fault_done {w W : World} {o : Obj} (hW : w.alloc o = W) {L er : Nat} (hL : L ≤ w.heap.size) {a b c d e0 : Value} (g0 : W.heap[L]? = some (.cells #[a, b, c] 33 (0, 0))) (g1 : W.heap[L + 1]? = some (.cells #[d] 3 (0, 0))) (g2 : W.heap[L + 2]? = some (.cells #[e0] 35 (0, 0))) :
    FaultAt L er (((((W.setCell ⟨L, 0, none⟩ (.int .i64 0)).setCell ⟨L, 1, none⟩ (.int .i64 0)).setCell ⟨L, 2, none⟩ (.slice none 0 0)).setCell ⟨L + 1, 0, none⟩ (.int .i64 0)).setCell ⟨L + 2, 0, none⟩ (.int .i64 er)).drew ∧
      Below L w (((((W.setCell ⟨L, 0, none⟩ (.int .i64 0)).setCell ⟨L, 1, none⟩ (.int .i64 0)).setCell ⟨L, 2, none⟩ (.slice none 0 0)).setCell ⟨L + 1, 0, none⟩ (.int .i64 0)).setCell ⟨L + 2, 0, none⟩ (.int .i64 er)).drew := by
  have e0 := set3 (x' := .int .i64 0) (y' := .int .i64 0) (z' := .slice none 0 0) g0
  have k0 : ∀ b', b' ≠ L → (((W.setCell ⟨L, 0, none⟩ (.int .i64 0)).setCell ⟨L, 1, none⟩ (.int .i64 0)).setCell ⟨L, 2, none⟩ (.slice none 0 0)).heap[b']? = W.heap[b']? := fun b' hb => by
    rw [Below.heap_setCell _ _ _ _ hb, Below.heap_setCell _ _ _ _ hb, Below.heap_setCell _ _ _ _ hb]
  have hb0 : Below L w (((W.setCell ⟨L, 0, none⟩ (.int .i64 0)).setCell ⟨L, 1, none⟩ (.int .i64 0)).setCell ⟨L, 2, none⟩ (.slice none 0 0)) := by
    rw [← hW]
    exact ((((Below.refl _ _).alloc hL o).setCell (Nat.le_refl _) _).setCell (Nat.le_refl _) _).setCell (Nat.le_refl _) _
  generalize (((W.setCell ⟨L, 0, none⟩ (.int .i64 0)).setCell ⟨L, 1, none⟩ (.int .i64 0)).setCell ⟨L, 2, none⟩ (.slice none 0 0)) = W3 at e0 k0 hb0 ⊢
  have e1 := set1 (x' := .int .i64 0) ((k0 (L + 1) (by omega)).trans g1)
  have k1 : ∀ b', b' ≠ L + 1 → (W3.setCell ⟨L + 1, 0, none⟩ (.int .i64 0)).heap[b']? = W3.heap[b']? := fun b' hb => Below.heap_setCell _ _ _ _ hb
  have e2 := set1 (x' := .int .i64 er) ((k1 (L + 2) (by omega)).trans ((k0 (L + 2) (by omega)).trans g2))
  have hb1 : Below L w (W3.setCell ⟨L + 1, 0, none⟩ (.int .i64 0)) := hb0.setCell (Nat.le_succ _) _
  generalize (W3.setCell ⟨L + 1, 0, none⟩ (.int .i64 0)) = W4 at e1 k1 e2 hb1 ⊢
  have k2 : ∀ b', b' ≠ L + 2 → (W4.setCell ⟨L + 2, 0, none⟩ (.int .i64 er)).heap[b']? = W4.heap[b']? := fun b' hb => Below.heap_setCell _ _ _ _ hb
  exact ⟨⟨(k2 L (by omega)).trans ((k1 L (by omega)).trans e0), (k2 (L + 1) (by omega)).trans e1, e2⟩, (hb1.setCell (Nat.le_add_right L 2) _).drew⟩

set_option maxRecDepth 100000 in
set_option maxHeartbeats 1000000 in
theorem catch_fault (L er : Nat) (a b c d e0 : Value) (w : World) (h0 : w.heap[L]? = some (.cells #[a, b, c] 33 (0, 0))) (h1 : w.heap[L + 1]? = some (.cells #[d] 3 (0, 0))) (h2 : w.heap[L + 2]? = some (.cells #[e0] 35 (0, 0))) :
    CallsD Try.prog 98 #[.pointer (some ⟨L, 0, none⟩), .pointer (some ⟨L + 1, 0, none⟩), .pointer (some ⟨L + 2, 0, none⟩)] (.panicking [{ v := faultV er, recovered := false }]) w fun e u' w' => e = .returned (.tuple #[]) ∧ u' = .panicking [{ v := faultV er, recovered := true }] ∧ FaultAt L er w' ∧ Below L w w' := by
  have hta : ∀ W : World, (Instr.typeAssert (.iface 133 (.agg #[.int .i64 er])) 20 133 true).run Try.prog W = .ok (.tuple #[.agg #[.int .i64 er], .bool true]) W := fun _ => by kernel_rfl
  have l2 := lt_of_block h2
  obtain ⟨W, hW⟩ : ∃ W, w.alloc (.cells #[.int .i64 er] 133) = W := ⟨_, rfl⟩
  have g0 : W.heap[L]? = some (.cells #[a, b, c] 33 (0, 0)) := by rw [← hW]; exact (heap_old _ _ (by omega)).trans h0
  have g1 : W.heap[L + 1]? = some (.cells #[d] 3 (0, 0)) := by rw [← hW]; exact (heap_old _ _ (by omega)).trans h1
  have g2 : W.heap[L + 2]? = some (.cells #[e0] 35 (0, 0)) := by rw [← hW]; exact (heap_old _ _ (by omega)).trans h2
  have g3 : W.heap[w.heap.size]? = some (.cells #[.int .i64 er] 133 (0, 0)) := by rw [← hW]; exact heap_new _ _
  have c0 := cell_at g0 0
  have c1 := cell_at g0 1
  have c2 := cell_at g0 2
  have c3 := cell_at g1 0
  have c4 := cell_at g2 0
  have c5 := cell_at g3 0
  simp at c0 c1 c2 c3 c4 c5
  have z0 := free_of g0
  have z1 := free_of g1
  have z2 := free_of g2
  have HW := Lib.hid hW
  have hn0 : w.heap.size ≠ L := by omega
  have hn1 : w.heap.size ≠ L + 1 := by omega
  have hn2 : w.heap.size ≠ L + 2 := by omega
  have HF : Hid (FaultAt L er _ ∧ Below L w _) := Lib.hid (fault_done hW (by omega) g0 g1 g2)
  clear hW g0 g1 g2 g3
  refine callsD_of_wpS Try.func98 rfl fun c₀ cs hu => ?_
  apply wpS_seq
  apply wpS_region
  simp [wpOpsS, go_sem, recoverD, hu, Try.ntmps98, Exit.thenS]
  refine wpS_of_wp ?_
  change Code.wp Try.prog _ _ { tmps := #[.pointer (some ⟨L, 0, none⟩), .pointer (some ⟨L + 1, 0, none⟩), .pointer (some ⟨L + 2, 0, none⟩), faultV er, undef, undef, faultV er, undef, undef, undef, undef, undef, undef, undef, undef, undef, undef, undef, undef, undef], defers := [] } w
  unfold faultV
  clear h0 h1 h2
  go_wp2
  rw [HW.out]
  go_region
  exact ⟨rfl, _, rfl, .tuple #[], by simp [results, Try.results98], rfl, rfl, HF.out.1, HF.out.2⟩
end Go.Proofs.Ythnkoamabfaioaa
