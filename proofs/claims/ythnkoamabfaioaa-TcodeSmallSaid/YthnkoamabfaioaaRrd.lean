/- The contract of the document's own reader's number; a list of cells that stands for levels whose Kids lie in such and such blocks. -/
import Derived.Test.YthnkoamabfaioaaLonce
import Derived.Test.YthnkoamabfaioaaRget
import Derived.Test.YthnkoamabfaioaaRow
import Derived.Test.YthnkoamabfaioaaKid
import Derived.Deep.QuietTactic
import Derived.BigQuiet
namespace Go.Proofs.Ythnkoamabfaioaa
open Go.RowKit

/-- The reader's block, whole. -/
def RrAt (w : World) (R : Nat) (s : ByteArray) (p m e : Nat) : Prop := w.heap[R]? = some (.cells #[.string s, .int .i64 p, .int .i64 m, .int .i64 e] 116 (0, 0))
theorem RrAt.facts {w : World} {R : Nat} {s : ByteArray} {p m e : Nat} (h : RrAt w R s p m e) : w.cell? ⟨R, 0, none⟩ = some (.string s) ∧ w.cell? ⟨R, 1, none⟩ = some (.int .i64 p) ∧ w.cell? ⟨R, 2, none⟩ = some (.int .i64 m) ∧ w.cell? ⟨R, 3, none⟩ = some (.int .i64 e) ∧ (∀ o, w.frozen? ⟨R, o, none⟩ = false) ∧ R < w.heap.size :=
  ⟨cell_at h 0, cell_at h 1, cell_at h 2, cell_at h 3, free_of h, lt_of_block h⟩
theorem RrAt.set1 {w : World} {R : Nat} {s : ByteArray} {p m e : Nat} (h : RrAt w R s p m e) (q : Nat) : RrAt (w.setCell ⟨R, 1, none⟩ (.int .i64 q)) R s q m e := by
  unfold RrAt at *
  simp only [World.setCell, Array.getElem?_modify, if_true, h]; rfl
theorem RrAt.set2 {w : World} {R : Nat} {s : ByteArray} {p m e : Nat} (h : RrAt w R s p m e) (q : Nat) : RrAt (w.setCell ⟨R, 2, none⟩ (.int .i64 q)) R s p q e := by
  unfold RrAt at *
  simp only [World.setCell, Array.getElem?_modify, if_true, h]; rfl
theorem RrAt.set3 {w : World} {R : Nat} {s : ByteArray} {p m e : Nat} (h : RrAt w R s p m e) (q : Nat) : RrAt (w.setCell ⟨R, 3, none⟩ (.int .i64 q)) R s p m q := by
  unfold RrAt at *
  simp only [World.setCell, Array.getElem?_modify, if_true, h]; rfl
theorem RrAt.draws {w : World} {R : Nat} {s : ByteArray} {p m e : Nat} (h : RrAt w R s p m e) (n : Nat) : RrAt (w.drewN n) R s p m e := h

set_option maxRecDepth 100000 in
set_option maxHeartbeats 1000000 in
theorem rlnum_ok (R : Nat) (s : ByteArray) (p m n q : Nat) (w : World) (hat : RrAt w R s p m 0) (hs : s.size ≤ maxLen) (hp : p ≤ s.size) (h : num s p = (n, q, 0)) :
    Calls Try.prog 87 #[.pointer (some ⟨R, 0, none⟩)] w fun e w' => e = .returned (.int .i64 n) ∧ RrAt w' R s q m 0 ∧ w.grownBy w' (some R) := by
  obtain ⟨c0, c1, c2, c3, fz, hR⟩ := hat.facts
  have HG : Hid (∀ W : World, Calls Try.prog 68 #[.string s, .int .i64 p] W fun e w' => e = .returned (.tuple #[.int .i64 n, .int .i64 q, .int .i64 0]) ∧ w' = W) := Lib.hid (fun W => (rget_any s p W hs hp).mono (by
    rintro e w' ⟨rfl, rfl⟩
    exact ⟨by show Ending.returned (rdV (num s p)) = _; rw [h]; rfl, rfl⟩))
  have HA := Lib.hid hat
  clear h hat
  go_enter Try.func87, Try.ntmps87
  go_wp2_with fail
  go_quiet ((go_at_call 68; exact Calls.quiet_of_same (HG.out _)))
  go_wp2_with fail
  go_ret
  exact ⟨rfl, (HA.out.draws _).set1 q, Only.after (Only.draws (Only.refl _ _) _) (Only.set _ _ _ _)⟩
set_option maxRecDepth 100000 in
set_option maxHeartbeats 1000000 in
theorem rlnum_no (R : Nat) (s : ByteArray) (p m er : Nat) (w : World) (hat : RrAt w R s p m 0) (hs : s.size ≤ maxLen) (hp : p ≤ s.size) (h : (num s p).2.2 = er) (he : er ≠ 0) :
    Calls Try.prog 87 #[.pointer (some ⟨R, 0, none⟩)] w fun e w' => e = .returned (.int .i64 0) ∧ RrAt w' R s p m er ∧ w.grownBy w' (some R) := by
  obtain ⟨c0, c1, c2, c3, fz, hR⟩ := hat.facts
  have HG : Hid (∀ W : World, Calls Try.prog 68 #[.string s, .int .i64 p] W fun e w' => e = .returned (.tuple #[.int .i64 (num s p).1, .int .i64 (num s p).2.1, .int .i64 er]) ∧ w' = W) := Lib.hid (fun W => (rget_any s p W hs hp).mono (by
    rintro e w' ⟨rfl, rfl⟩
    exact ⟨by show Ending.returned (rdV (num s p)) = _; rw [← h]; rfl, rfl⟩))
  have HA := Lib.hid hat
  have hne : ((er : Int) != 0) = true := by rw [bne_iff_ne]; omega
  generalize (num s p).1 = n1 at HG
  generalize (num s p).2.1 = n2 at HG
  clear h hat he
  go_enter Try.func87, Try.ntmps87
  go_wp2_with fail
  go_quiet ((go_at_call 68; exact Calls.quiet_of_same (HG.out _)))
  go_wp2_with fail
  go_ret
  exact ⟨rfl, (HA.out.draws _).set3 er, Only.after (Only.draws (Only.refl _ _) _) (Only.set _ _ _ _)⟩

end Go.Proofs.Ythnkoamabfaioaa
