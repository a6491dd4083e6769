/- The contract of the document's own reader's number, for terms. No condition but those that stand in each statement. -/
import Derived.Test.YthnkoamabfaioaaUspec
import Derived.Test.YthnkoamabfaioaaRget
import Derived.Test.YthnkoamabfaioaaRow
import Derived.Deep.QuietTactic
import Derived.BigQuiet
namespace Go.Proofs.Ythnkoamabfaioaa
open Go.RowKit

/-- The reader's block, whole. -/
def R4At (w : World) (R : Nat) (s : ByteArray) (p m e : Nat) : Prop := w.heap[R]? = some (.cells #[.string s, .int .i64 p, .int .i64 m, .int .i64 e] 68 (0, 0))
theorem R4At.facts {w : World} {R : Nat} {s : ByteArray} {p m e : Nat} (h : R4At w R s p m e) : w.cell? ⟨R, 0, none⟩ = some (.string s) ∧ w.cell? ⟨R, 1, none⟩ = some (.int .i64 p) ∧ w.cell? ⟨R, 2, none⟩ = some (.int .i64 m) ∧ w.cell? ⟨R, 3, none⟩ = some (.int .i64 e) ∧ (∀ o, w.frozen? ⟨R, o, none⟩ = false) ∧ R < w.heap.size :=
  ⟨cell_at h 0, cell_at h 1, cell_at h 2, cell_at h 3, free_of h, lt_of_block h⟩
theorem R4At.set1 {w : World} {R : Nat} {s : ByteArray} {p m e : Nat} (h : R4At w R s p m e) (q : Nat) : R4At (w.setCell ⟨R, 1, none⟩ (.int .i64 q)) R s q m e := by
  unfold R4At at *
  simp only [World.setCell, Array.getElem?_modify, if_true, h]; rfl
theorem R4At.set2 {w : World} {R : Nat} {s : ByteArray} {p m e : Nat} (h : R4At w R s p m e) (q : Nat) : R4At (w.setCell ⟨R, 2, none⟩ (.int .i64 q)) R s p q e := by
  unfold R4At at *
  simp only [World.setCell, Array.getElem?_modify, if_true, h]; rfl
theorem R4At.set3 {w : World} {R : Nat} {s : ByteArray} {p m e : Nat} (h : R4At w R s p m e) (q : Nat) : R4At (w.setCell ⟨R, 3, none⟩ (.int .i64 q)) R s p m q := by
  unfold R4At at *
  simp only [World.setCell, Array.getElem?_modify, if_true, h]; rfl
theorem R4At.draws {w : World} {R : Nat} {s : ByteArray} {p m e : Nat} (h : R4At w R s p m e) (n : Nat) : R4At (w.drewN n) R s p m e := h

set_option maxRecDepth 100000 in
set_option maxHeartbeats 1000000 in
theorem r14number_ok (R : Nat) (s : ByteArray) (p m n q most : Nat) (w : World) (hat : R4At w R s p m 0) (hs : s.size ≤ maxLen) (hp : p ≤ s.size) (h : num s p = (n, q, 0)) (hn : n < most) :
    Calls Try.prog 50 #[.pointer (some ⟨R, 0, none⟩), .int .i64 most] w fun e w' => e = .returned (.int .i64 n) ∧ R4At w' R s q m 0 ∧ w.grownBy w' (some R) := by
  obtain ⟨c0, c1, c2, c3, fz, hR⟩ := hat.facts
  have HG : Hid (∀ W : World, Calls Try.prog 68 #[.string s, .int .i64 p] W fun e w' => e = .returned (.tuple #[.int .i64 n, .int .i64 q, .int .i64 0]) ∧ w' = W) := Lib.hid (fun W => (rget_any s p W hs hp).mono (by
    rintro e w' ⟨rfl, rfl⟩
    exact ⟨by show Ending.returned (rdV (num s p)) = _; rw [h]; rfl, rfl⟩))
  have HA := Lib.hid hat
  have d1 : decide (most ≤ n) = false := by simpa using hn
  clear h hat
  go_enter Try.func50, Try.ntmps50
  go_wp2_with fail
  go_quiet ((go_at_call 68; exact Calls.quiet_of_same (HG.out _)))
  go_wp2_with fail
  go_ret
  exact ⟨rfl, ((HA.out.draws _).set3 0).set1 q, Only.after (Only.after (Only.draws (Only.refl _ _) _) (Only.set _ _ _ _)) (Only.set _ _ _ _)⟩
set_option maxRecDepth 100000 in
set_option maxHeartbeats 1000000 in
theorem r14number_big (R : Nat) (s : ByteArray) (p m n q most : Nat) (w : World) (hat : R4At w R s p m 0) (hs : s.size ≤ maxLen) (hp : p ≤ s.size) (h : num s p = (n, q, 0)) (hn : most ≤ n) :
    Calls Try.prog 50 #[.pointer (some ⟨R, 0, none⟩), .int .i64 most] w fun e w' => e = .returned (.int .i64 0) ∧ R4At w' R s p m 20 ∧ w.grownBy w' (some R) := by
  obtain ⟨c0, c1, c2, c3, fz, hR⟩ := hat.facts
  have HG : Hid (∀ W : World, Calls Try.prog 68 #[.string s, .int .i64 p] W fun e w' => e = .returned (.tuple #[.int .i64 n, .int .i64 q, .int .i64 0]) ∧ w' = W) := Lib.hid (fun W => (rget_any s p W hs hp).mono (by
    rintro e w' ⟨rfl, rfl⟩
    exact ⟨by show Ending.returned (rdV (num s p)) = _; rw [h]; rfl, rfl⟩))
  have HA := Lib.hid hat
  have d1 : decide (most ≤ n) = true := by simpa using hn
  clear h hat
  go_enter Try.func50, Try.ntmps50
  go_wp2_with fail
  go_quiet ((go_at_call 68; exact Calls.quiet_of_same (HG.out _)))
  go_wp2_with fail
  go_ret
  exact ⟨rfl, (HA.out.draws _).set3 20, Only.after (Only.draws (Only.refl _ _) _) (Only.set _ _ _ _)⟩
set_option maxRecDepth 100000 in
set_option maxHeartbeats 1000000 in
theorem r14number_no (R : Nat) (s : ByteArray) (p m er most : Nat) (w : World) (hat : R4At w R s p m 0) (hs : s.size ≤ maxLen) (hp : p ≤ s.size) (h : (num s p).2.2 = er) (he : er ≠ 0) :
    Calls Try.prog 50 #[.pointer (some ⟨R, 0, none⟩), .int .i64 most] w fun e w' => e = .returned (.int .i64 0) ∧ R4At w' R s p m er ∧ w.grownBy w' (some R) := by
  obtain ⟨c0, c1, c2, c3, fz, hR⟩ := hat.facts
  have HG : Hid (∀ W : World, Calls Try.prog 68 #[.string s, .int .i64 p] W fun e w' => e = .returned (.tuple #[.int .i64 (num s p).1, .int .i64 (num s p).2.1, .int .i64 er]) ∧ w' = W) := Lib.hid (fun W => (rget_any s p W hs hp).mono (by
    rintro e w' ⟨rfl, rfl⟩
    exact ⟨by show Ending.returned (rdV (num s p)) = _; rw [← h]; rfl, rfl⟩))
  have HA := Lib.hid hat
  have hne : ((er : Int) != 0) = true := by rw [bne_iff_ne]; omega
  have hne2 : ((er : Int) == 0) = false := by rw [beq_eq_false_iff_ne]; omega
  generalize (num s p).1 = n1 at HG
  generalize (num s p).2.1 = n2 at HG
  clear h hat he
  go_enter Try.func50, Try.ntmps50
  go_wp2_with fail
  go_quiet ((go_at_call 68; exact Calls.quiet_of_same (HG.out _)))
  go_wp2_with fail
  go_ret
  exact ⟨rfl, (HA.out.draws _).set3 er, Only.after (Only.draws (Only.refl _ _) _) (Only.set _ _ _ _)⟩
set_option maxRecDepth 100000 in
set_option maxHeartbeats 1000000 in
/-- Behind an error nothing is read. -/
theorem r14number_err (R : Nat) (s : ByteArray) (p m er most : Nat) (w : World) (hat : R4At w R s p m er) (he : er ≠ 0) :
    Calls Try.prog 50 #[.pointer (some ⟨R, 0, none⟩), .int .i64 most] w fun e w' => e = .returned (.int .i64 0) ∧ w' = w := by
  obtain ⟨c0, c1, c2, c3, fz, hR⟩ := hat.facts
  have hne : ((er : Int) != 0) = true := by rw [bne_iff_ne]; omega
  clear hat he
  go_enter Try.func50, Try.ntmps50
  go_wp2_with fail
  go_ret
  exact ⟨rfl, rfl⟩
end Go.Proofs.Ythnkoamabfaioaa
