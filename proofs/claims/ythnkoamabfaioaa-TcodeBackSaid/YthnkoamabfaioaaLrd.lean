/- The contracts of the reader's own calls: number, numberBelow. -/
import Derived.Test.YthnkoamabfaioaaLspec
import Derived.Test.YthnkoamabfaioaaGet
import Derived.Test.YthnkoamabfaioaaCell
import Derived.Deep.QuietTactic
import Derived.BigQuiet
import Derived.WalkSmall
namespace Go.Proofs.Ythnkoamabfaioaa
open Go.RowKit

/-- The reader's block, whole. -/
def RdAt (w : World) (R : Nat) (s : ByteArray) (p l : Nat) : Prop := w.heap[R]? = some (.cells #[.string s, .int .i64 p, .int .i64 l] 136 (0, 0))
theorem RdAt.facts {w : World} {R : Nat} {s : ByteArray} {p l : Nat} (h : RdAt w R s p l) : w.cell? ⟨R, 0, none⟩ = some (.string s) ∧ w.cell? ⟨R, 1, none⟩ = some (.int .i64 p) ∧ w.cell? ⟨R, 2, none⟩ = some (.int .i64 l) ∧ w.frozen? ⟨R, 1, none⟩ = false ∧ w.frozen? ⟨R, 2, none⟩ = false ∧ R < w.heap.size :=
  ⟨cell_at h 0, cell_at h 1, cell_at h 2, free_of h 1, free_of h 2, lt_of_block h⟩
theorem RdAt.at {w : World} {R : Nat} {s : ByteArray} {p l : Nat} (h : RdAt w R s p l) (q : Nat) : RdAt (w.setCell ⟨R, 1, none⟩ (.int .i64 q)) R s q l := by
  unfold RdAt at *
  simp only [World.setCell, Array.getElem?_modify, if_true, h]; rfl
theorem RdAt.left {w : World} {R : Nat} {s : ByteArray} {p l : Nat} (h : RdAt w R s p l) (q : Nat) : RdAt (w.setCell ⟨R, 2, none⟩ (.int .i64 q)) R s p q := by
  unfold RdAt at *
  simp only [World.setCell, Array.getElem?_modify, if_true, h]; rfl
theorem RdAt.draws {w : World} {R : Nat} {s : ByteArray} {p l : Nat} (h : RdAt w R s p l) (n : Nat) : RdAt (w.drewN n) R s p l := h
/-- What the reading panics with. -/
def faultV (e : Nat) : Value := .iface 133 (.agg #[.int .i64 e])

set_option maxRecDepth 100000 in
set_option maxHeartbeats 1000000 in
theorem lnum_ok (R : Nat) (s : ByteArray) (p l n q : Nat) (w : World) (hat : RdAt w R s p l) (hs : s.size ≤ maxLen) (hp : p ≤ s.size) (h : num s p = (n, q, 0)) :
    Calls Try.prog 101 #[.pointer (some ⟨R, 0, none⟩)] w fun e w' => e = .returned (.int .i64 n) ∧ RdAt w' R s q l ∧ w.grownBy w' (some R) := by
  obtain ⟨c0, c1, c2, f1, f2, hR⟩ := hat.facts
  have HG : Hid (∀ W : World, Calls Try.prog 66 #[.string s, .int .i64 p] W fun e w' => e = .returned (.tuple #[.int .i64 n, .int .i64 q, .int .i64 0]) ∧ w' = W) := Lib.hid (fun W => (get_any s p W hs hp).mono (by
    rintro e w' ⟨rfl, rfl⟩
    exact ⟨by show Ending.returned (rdV (num s p)) = _; rw [h]; rfl, rfl⟩))
  have HA := Lib.hid hat
  clear h hat
  go_enter Try.func101, Try.ntmps101
  go_wp2_with fail
  go_quiet ((go_at_call 66; exact Calls.quiet_of_same (HG.out _)))
  go_wp2_with fail
  go_ret
  exact ⟨rfl, (HA.out.draws _).at q, Only.after (Only.draws (Only.refl _ _) _) (Only.set _ _ _ _)⟩
set_option maxRecDepth 100000 in
set_option maxHeartbeats 1000000 in
theorem lnum_no (R : Nat) (s : ByteArray) (p l er : Nat) (w : World) (hat : RdAt w R s p l) (hs : s.size ≤ maxLen) (hp : p ≤ s.size) (h : (num s p).2.2 = er) (he : er ≠ 0) :
    Calls Try.prog 101 #[.pointer (some ⟨R, 0, none⟩)] w fun e w' => e = .panicked [{ v := faultV er, recovered := false }] ∧ w.grownBy w' (some R) := by
  obtain ⟨c0, c1, c2, f1, f2, hR⟩ := hat.facts
  have HG : Hid (∀ W : World, Calls Try.prog 66 #[.string s, .int .i64 p] W fun e w' => e = .returned (.tuple #[.int .i64 (num s p).1, .int .i64 (num s p).2.1, .int .i64 er]) ∧ w' = W) := Lib.hid (fun W => (get_any s p W hs hp).mono (by
    rintro e w' ⟨rfl, rfl⟩
    exact ⟨by show Ending.returned (rdV (num s p)) = _; rw [← h]; rfl, rfl⟩))
  have HA := Lib.hid hat
  have hne : ((er : Int) != 0) = true := by rw [bne_iff_ne]; omega
  generalize (num s p).1 = n1 at HG
  generalize (num s p).2.1 = n2 at HG
  clear h hat he
  go_enter Try.func101, Try.ntmps101
  go_wp2_with fail
  go_quiet ((go_at_call 66; exact Calls.quiet_of_same (HG.out _)))
  go_wp2_with fail
  exact ⟨rfl, rfl, Only.draws (Only.refl _ _) _⟩

set_option maxRecDepth 100000 in
set_option maxHeartbeats 1000000 in
theorem lbelow_ok (R : Nat) (s : ByteArray) (p l n q lim : Nat) (w : World) (hat : RdAt w R s p l) (hs : s.size ≤ maxLen) (hp : p ≤ s.size) (h : num s p = (n, q, 0)) (hl : n < lim) :
    Calls Try.prog 103 #[.pointer (some ⟨R, 0, none⟩), .int .i64 lim] w fun e w' => e = .returned (.int .i64 n) ∧ RdAt w' R s q l ∧ w.grownBy w' (some R) := by
  have HN := Lib.hid (lnum_ok R s p l n q w hat hs hp h)
  clear h hat
  go_enter Try.func103, Try.ntmps103
  go_wp2_with fail
  refine HN.out.mono ?_
  rintro e w1 ⟨rfl, hat1, hg1⟩
  have H1 := Lib.hid hat1
  clear hat1
  have d : decide (lim ≤ n) = false := by simp; omega
  go_wp2_with fail
  go_ret
  exact ⟨rfl, H1.out, hg1⟩
set_option maxRecDepth 100000 in
set_option maxHeartbeats 1000000 in
theorem lbelow_big (R : Nat) (s : ByteArray) (p l n q lim : Nat) (w : World) (hat : RdAt w R s p l) (hs : s.size ≤ maxLen) (hp : p ≤ s.size) (h : num s p = (n, q, 0)) (hl : lim ≤ n) :
    Calls Try.prog 103 #[.pointer (some ⟨R, 0, none⟩), .int .i64 lim] w fun e w' => e = .panicked [{ v := faultV 20, recovered := false }] ∧ w.grownBy w' (some R) := by
  have HN := Lib.hid (lnum_ok R s p l n q w hat hs hp h)
  clear h hat
  go_enter Try.func103, Try.ntmps103
  go_wp2_with fail
  refine HN.out.mono ?_
  rintro e w1 ⟨rfl, hat1, hg1⟩
  have H1 := Lib.hid hat1
  clear hat1
  have d : decide (lim ≤ n) = true := by simp; omega
  go_wp2_with fail
  exact ⟨rfl, rfl, hg1⟩
set_option maxRecDepth 100000 in
set_option maxHeartbeats 1000000 in
theorem lbelow_no (R : Nat) (s : ByteArray) (p l er lim : Nat) (w : World) (hat : RdAt w R s p l) (hs : s.size ≤ maxLen) (hp : p ≤ s.size) (h : (num s p).2.2 = er) (he : er ≠ 0) :
    Calls Try.prog 103 #[.pointer (some ⟨R, 0, none⟩), .int .i64 lim] w fun e w' => e = .panicked [{ v := faultV er, recovered := false }] ∧ w.grownBy w' (some R) := by
  have HN := Lib.hid (lnum_no R s p l er w hat hs hp h he)
  clear h hat he
  go_enter Try.func103, Try.ntmps103
  go_wp2_with fail
  refine HN.out.mono ?_
  rintro e w1 ⟨rfl, hg1⟩
  go_wp2_with fail
  exact ⟨rfl, rfl, hg1⟩
end Go.Proofs.Ythnkoamabfaioaa
