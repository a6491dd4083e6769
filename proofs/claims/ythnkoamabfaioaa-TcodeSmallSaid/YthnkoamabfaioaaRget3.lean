/- The contracts of the document's own Get, and of both at a place that is none: what the recursive reader of bytes tells, or its error; nothing that was there changes. -/
import Derived.Test.YthnkoamabfaioaaRlev2
import Derived.Test.YthnkoamabfaioaaLget3
namespace Go.Proofs.Ythnkoamabfaioaa
open Go.RowKit

theorem SlIn.drawn {w : World} {P : Nat → Prop} {F : Fo} {x : Option Addr} {c : Nat} (h : SlIn w P F x c) : SlIn w.drew P F x c := SlIn.keep (w := w) (w' := w.drew) (fun _ _ => rfl) h
/-- The world in which the reading begins. -/
def w2r (w : World) (s : ByteArray) (a : Nat) : World := (w.alloc (.cells #[.int .i64 0, .int .i64 0, .slice none 0 0] 33)).alloc (.cells #[.string s, .int .i64 a, .int .i64 0, .int .i64 0] 116)
theorem w2r_facts (w : World) (s : ByteArray) (a : Nat) : RrAt (w2r w s a) (w.heap.size + 1) s a 0 0 ∧ ZeroAt (w2r w s a) w.heap.size ∧ Below w.heap.size w (w2r w s a) ∧ (w2r w s a).heap.size = w.heap.size + 2 :=
  ⟨heap_second _ _ _, (heap_old _ _ (by simp)).trans (heap_new _ _), ((Below.refl _ _).alloc (Nat.le_refl _) _).alloc (by simp) _, by simp [w2r]⟩

set_option maxRecDepth 100000 in
set_option maxHeartbeats 2000000 in
theorem rlGet_any (s : ByteArray) (a : Nat) (w : World) (hs : s.size ≤ maxLen) (ha : a ≤ s.size) : Calls Try.prog 69 #[.string s, .int .i64 a] w (GetPost (rdL s 12 a 100) w) := by
  obtain ⟨hat, hZ, hbw, hz⟩ := w2r_facts w s a
  have HC : Hid (Calls Try.prog 80 #[.pointer (some ⟨w.heap.size + 1, 0, none⟩), .int .i64 0] (w2r w s a) (RvPost (w.heap.size + 1) s (rdL s 12 a 100) (w2r w s a))) := Lib.hid (rllevel_any (w.heap.size + 1) s hs 12 (by omega) a 100 _ hat ha (by omega))
  have HZ := Lib.hid (And.intro hZ (And.intro hbw hz))
  have HER := Lib.hid (rdL_err s 12 a 100)
  unfold maxLen at hs
  have d0 : decide ((a : Int) < 0) = false := by simp
  have d1 : decide (s.size < a) = false := by simp; omega
  clear hat hZ hbw hz
  cases hr : rdL s 12 a 100 with
  | no er =>
    have he := HER.out er hr
    rw [hr] at HC
    have dne : ((er : Int) != 0) = true := by rw [bne_iff_ne]; omega
    clear hr he HER
    go_enter Try.func69, Try.ntmps69
    go_wp2_with fail
    refine HC.out.mono ?_
    rintro e w5 ⟨k', n', x', ln, c', rfl, hg5, p', m', hat5⟩
    obtain ⟨hZ, hbw, hz⟩ := HZ.out
    have f0 : ZeroAt w5 w.heap.size := (Only.block hg5 (by omega) (by omega)).trans hZ
    obtain ⟨_, _, _, b3, bz, bR⟩ := hat5.facts
    have c0 := cell_at f0 0
    have c1 := cell_at f0 1
    have c2 := cell_at f0 2
    have z0 := free_of f0
    have hlt := lt_of_block f0
    simp at c0 c1 c2
    have HB5 : Hid (Below w.heap.size w w5) := Lib.hid (hbw.trans ⟨hg5.os, hg5.tape, hg5.output, hg5.size, fun i hi => Only.block hg5 (by omega) (by omega)⟩)
    clear hg5 hat5 hZ hbw hz f0 HZ
    go_wp2_with fail
    go_region
    go_wp2_with fail
    refine bodyPost_ret (v := .tuple #[.agg #[.int .i64 0, .int .i64 0, .slice none 0 0], .int .i64 0, .int .i64 er]) (by simp [results, Try.results69, go_sem, c0, c1, c2, hlt]) rfl ?_
    exact ⟨((below_set (below_set (below_set HB5.out (Nat.le_refl _) 0 _) (Nat.le_refl _) 1 _) (Nat.le_refl _) 2 _).alloc (by simp; omega) _).drew, rfl⟩
  | ok k n F q l =>
    rw [hr] at HC
    clear hr HER
    go_enter Try.func69, Try.ntmps69
    go_wp2_with fail
    refine HC.out.mono ?_
    rintro e w5 ⟨k', n', x', ln, c', rfl, hg5, rfl, rfl, rfl, hs5, hat5⟩
    obtain ⟨hZ, hbw, hz⟩ := HZ.out
    have f0 : ZeroAt w5 w.heap.size := (Only.block hg5 (by omega) (by omega)).trans hZ
    obtain ⟨_, b1, _, b3, bz, bR⟩ := hat5.facts
    have b3' : w5.cell? ⟨w.heap.size + 1, 3, none⟩ = some (.int .i64 0) := b3
    have c0 := cell_at f0 0
    have c1 := cell_at f0 1
    have c2 := cell_at f0 2
    have z0 := free_of f0
    have hlt := lt_of_block f0
    simp at c0 c1 c2
    have HB5 : Hid (Below w.heap.size w w5) := Lib.hid (hbw.trans ⟨hg5.os, hg5.tape, hg5.output, hg5.size, fun i hi => Only.block hg5 (by omega) (by omega)⟩)
    have HS5 := Lib.hid (And.intro hs5 hz)
    clear hg5 hat5 hZ hbw hz f0 HZ b3 hs5
    go_wp2_with fail
    go_region
    go_wp2_with fail
    refine bodyPost_ret (v := .tuple #[.agg #[.int .i64 k, .int .i64 n, .slice x' F.len c'], .int .i64 q, .int .i64 0]) (by simp [results, Try.results69, go_sem, c0, c1, c2, hlt]) rfl ?_
    refine ⟨((below_set (below_set (below_set HB5.out (Nat.le_refl _) 0 _) (Nat.le_refl _) 1 _) (Nat.le_refl _) 2 _).alloc (by simp; omega) _).drew, x', c', rfl, ?_⟩
    have u0 := Only.after (set3_only (w := w5) w.heap.size (.int .i64 k) (.int .i64 n) (.slice x' F.len c')) (Only.alloc _ w.heap.size (.cells #[.int .i64 k, .int .i64 n, .slice x' F.len c'] 33))
    have hzz := HS5.out.2
    exact (HS5.out.1.carry (lo' := w.heap.size) u0 (by rw [hzz]; omega) (by rw [hzz]; omega)).drawn

set_option maxRecDepth 100000 in
set_option maxHeartbeats 1000000 in
theorem rlGet_no (s : ByteArray) (a : Int) (w : World) (hs : s.size ≤ maxLen) (ha : a < 0 ∨ (s.size : Int) < a) : Calls Try.prog 69 #[.string s, .int .i64 a] w (GetPost (.no 1) w) := by
  unfold maxLen at hs
  have HE : Hid (GetPost (.no 1) w (.returned (.tuple #[.agg #[.int .i64 0, .int .i64 0, .slice none 0 0], .int .i64 0, .int .i64 1])) (w.alloc (.cells #[.int .i64 0, .int .i64 0, .slice none 0 0] 33))) := Lib.hid ⟨(Below.refl _ _).alloc (Nat.le_refl _) _, rfl⟩
  rcases ha with ha | ha
  · go_enter Try.func69, Try.ntmps69
    go_wp2_with fail
    refine bodyPost_ret (v := .tuple #[.agg #[.int .i64 0, .int .i64 0, .slice none 0 0], .int .i64 0, .int .i64 1]) (by simp [results, Try.results69, go_sem]) rfl ?_
    exact HE.out
  · have h0 : ¬ a < 0 := by omega
    go_enter Try.func69, Try.ntmps69
    go_wp2_with fail
    refine bodyPost_ret (v := .tuple #[.agg #[.int .i64 0, .int .i64 0, .slice none 0 0], .int .i64 0, .int .i64 1]) (by simp [results, Try.results69, go_sem]) rfl ?_
    exact HE.out
set_option maxRecDepth 100000 in
set_option maxHeartbeats 1000000 in
theorem lGet_no (s : ByteArray) (a : Int) (w : World) (hs : s.size ≤ maxLen) (ha : a < 0 ∨ (s.size : Int) < a) : Calls Try.prog 86 #[.string s, .int .i64 a] w (GetPost (.no 1) w) := by
  unfold maxLen at hs
  have HE : Hid (GetPost (.no 1) w (.returned (.tuple #[.agg #[.int .i64 0, .int .i64 0, .slice none 0 0], .int .i64 0, .int .i64 1])) (((w.alloc (.cells #[.int .i64 0, .int .i64 0, .slice none 0 0] 33)).alloc (.cells #[.int .i64 0] 3)).alloc (.cells #[.int .i64 1] 35))) := Lib.hid ⟨(((Below.refl _ _).alloc (Nat.le_refl _) _).alloc (by simp) _).alloc (by simp; omega) _, rfl⟩
  rcases ha with ha | ha
  · go_enter_defers Try.func86, Try.ntmps86
    go_wp2_with fail
    refine ⟨_, ?_, HE.out⟩
    simp [results, Try.results86, go_sem]
  · have h0 : ¬ a < 0 := by omega
    go_enter_defers Try.func86, Try.ntmps86
    go_wp2_with fail
    refine ⟨_, ?_, HE.out⟩
    simp [results, Try.results86, go_sem]

/-- What both Gets tell at any place. -/
def ansL (s : ByteArray) (a : Int) : Rl := if a < 0 ∨ (s.size : Int) < a then .no 1 else rdL s 12 a.toNat 100
theorem lGet_ans (s : ByteArray) (a : Int) (w : World) (hs : s.size ≤ maxLen) : Calls Try.prog 86 #[.string s, .int .i64 a] w (GetPost (ansL s a) w) := by
  unfold ansL
  by_cases h : a < 0 ∨ (s.size : Int) < a
  · rw [if_pos h]; exact lGet_no s a w hs h
  · rw [if_neg h]
    have := lGet_any s a.toNat w hs (by omega)
    rwa [show ((a.toNat : Nat) : Int) = a by omega] at this
theorem rlGet_ans (s : ByteArray) (a : Int) (w : World) (hs : s.size ≤ maxLen) : Calls Try.prog 69 #[.string s, .int .i64 a] w (GetPost (ansL s a) w) := by
  unfold ansL
  by_cases h : a < 0 ∨ (s.size : Int) < a
  · rw [if_pos h]; exact rlGet_no s a w hs h
  · rw [if_neg h]
    have := rlGet_any s a.toNat w hs (by omega)
    rwa [show ((a.toNat : Nat) : Int) = a by omega] at this
end Go.Proofs.Ythnkoamabfaioaa
