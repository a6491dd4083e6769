/- The contract of the document's own Get, for terms: what the recursive reader of bytes tells, or its error; nothing that was there changes. No condition but those that stand in each statement. -/
import Derived.Test.YthnkoamabfaioaaUrt
namespace Go.Proofs.Ythnkoamabfaioaa
open Go.RowKit

/-- What Get answers, where reading tells r: in new memory. -/
def TgPost (r : Tl) (w : World) (e : Ending) (w' : World) : Prop := Below w.heap.size w w' ∧
  match r with
  | .no er => e = .returned (.tuple #[.agg #[.int .i64 0, .int .i64 0, .slice none 0 0, .slice none 0 0], .int .i64 0, .int .i64 er])
  | .ok k n ls ks q _ => ∃ la lc ka kc, e = .returned (.tuple #[.agg #[.int .i64 k, .int .i64 n, .slice la ls.len lc, .slice ka ks.len kc], .int .i64 q, .int .i64 0]) ∧ SlIn w' (fun b => w.heap.size ≤ b ∧ b < w'.heap.size) ls la lc ∧ TlIn w' (fun b => w.heap.size ≤ b ∧ b < w'.heap.size) ks ka kc
theorem TlIn.drawn {w : World} {P : Nat → Prop} {F : Ft} {x : Option Addr} {c : Nat} (h : TlIn w P F x c) : TlIn w.drew P F x c := TlIn.keep (w := w) (w' := w.drew) (fun _ _ => rfl) h
/-- The world in which the reading begins. -/
def w2t (w : World) (s : ByteArray) (a : Nat) : World := (w.alloc (.cells #[.int .i64 0, .int .i64 0, .slice none 0 0, .slice none 0 0] 29)).alloc (.cells #[.string s, .int .i64 a, .int .i64 0, .int .i64 0] 68)
theorem w2t_facts (w : World) (s : ByteArray) (a : Nat) : R4At (w2t w s a) (w.heap.size + 1) s a 0 0 ∧ ZtAt (w2t w s a) w.heap.size ∧ Below w.heap.size w (w2t w s a) ∧ (w2t w s a).heap.size = w.heap.size + 2 :=
  ⟨heap_second _ _ _, (heap_old _ _ (by simp)).trans (heap_new _ _), ((Below.refl _ _).alloc (Nat.le_refl _) _).alloc (by simp) _, by simp [w2t]⟩
set_option maxRecDepth 100000 in
set_option maxHeartbeats 2000000 in
theorem r14Get_any (s : ByteArray) (a : Nat) (w : World) (hs : s.size ≤ maxLen) (ha : a ≤ s.size) : Calls Try.prog 22 #[.string s, .int .i64 a] w (TgPost (rdT s 30 0 a 0) w) := by
  obtain ⟨hat, hZ, hbw, hz⟩ := w2t_facts w s a
  have HC : Hid (Calls Try.prog 32 #[.pointer (some ⟨w.heap.size + 1, 0, none⟩), .int .i64 0, .int .i64 0] (w2t w s a) (RtPost (w.heap.size + 1) s (rdT s 30 0 a 0) (w2t w s a))) := Lib.hid (r14term_any (w.heap.size + 1) s hs 30 (by omega) 0 a 0 _ hat ha (by omega) (by omega))
  have HZ := Lib.hid (And.intro hZ (And.intro hbw hz))
  have HER := Lib.hid (rdT_once s 30 0 a 0 ha)
  unfold maxLen at hs
  have d0 : decide ((a : Int) < 0) = false := by simp
  have d1 : decide (s.size < a) = false := by simp; omega
  clear hat hZ hbw hz
  cases hr : rdT s 30 0 a 0 with
  | no er =>
    rw [hr] at HC HER
    have he : er ≠ 0 := HER.out
    have dne : ((er : Int) != 0) = true := by rw [bne_iff_ne]; omega
    clear hr he HER
    go_enter Try.func22, Try.ntmps22
    go_wp2_with fail
    refine HC.out.mono ?_
    rintro e w5 ⟨k', n', la, ln, lc, ka, kn, kc, rfl, hg5, p', m', hat5⟩
    obtain ⟨hZ, hbw, hz⟩ := HZ.out
    have f0 : ZtAt w5 w.heap.size := (Only.block hg5 (by omega) (by omega)).trans hZ
    obtain ⟨_, _, _, b3, bz, bR⟩ := hat5.facts
    have c0 := cell_at f0 0
    have c1 := cell_at f0 1
    have c2 := cell_at f0 2
    have c3 := cell_at f0 3
    have z0 := free_of f0
    have hlt := lt_of_block f0
    simp at c0 c1 c2 c3
    have HB5 : Hid (Below w.heap.size w w5) := Lib.hid (hbw.trans ⟨hg5.os, hg5.tape, hg5.output, hg5.size, fun i hi => Only.block hg5 (by omega) (by omega)⟩)
    clear hg5 hat5 hZ hbw hz f0 HZ
    go_wp2_with fail
    go_region
    go_wp2_with fail
    refine bodyPost_ret (v := .tuple #[.agg #[.int .i64 0, .int .i64 0, .slice none 0 0, .slice none 0 0], .int .i64 0, .int .i64 er]) (by simp [results, Try.results22, go_sem, c0, c1, c2, c3, hlt]) rfl ?_
    exact ⟨((below_set (below_set (below_set (below_set HB5.out (Nat.le_refl _) 0 _) (Nat.le_refl _) 1 _) (Nat.le_refl _) 2 _) (Nat.le_refl _) 3 _).alloc (by simp; omega) _).drew, rfl⟩
  | ok k n ls ks q m =>
    rw [hr] at HC
    clear hr HER
    go_enter Try.func22, Try.ntmps22
    go_wp2_with fail
    refine HC.out.mono ?_
    rintro e w5 ⟨k', n', la, ln, lc, ka, kn, kc, rfl, hg5, rfl, rfl, rfl, rfl, hl5, hs5, hat5⟩
    obtain ⟨hZ, hbw, hz⟩ := HZ.out
    have f0 : ZtAt w5 w.heap.size := (Only.block hg5 (by omega) (by omega)).trans hZ
    obtain ⟨_, b1, _, b3, bz, bR⟩ := hat5.facts
    have b3' : w5.cell? ⟨w.heap.size + 1, 3, none⟩ = some (.int .i64 0) := b3
    have c0 := cell_at f0 0
    have c1 := cell_at f0 1
    have c2 := cell_at f0 2
    have c3 := cell_at f0 3
    have z0 := free_of f0
    have hlt := lt_of_block f0
    simp at c0 c1 c2 c3
    have HB5 : Hid (Below w.heap.size w w5) := Lib.hid (hbw.trans ⟨hg5.os, hg5.tape, hg5.output, hg5.size, fun i hi => Only.block hg5 (by omega) (by omega)⟩)
    have HS5 := Lib.hid (And.intro hl5 (And.intro hs5 hz))
    clear hg5 hat5 hZ hbw hz f0 HZ b3 hs5 hl5
    go_wp2_with fail
    go_region
    go_wp2_with fail
    refine bodyPost_ret (v := .tuple #[.agg #[.int .i64 k, .int .i64 n, .slice la ls.len lc, .slice ka ks.len kc], .int .i64 q, .int .i64 0]) (by simp [results, Try.results22, go_sem, c0, c1, c2, c3, hlt]) rfl ?_
    have u0 := Only.after (set4_only (w := w5) w.heap.size (.int .i64 k) (.int .i64 n) (.slice la ls.len lc) (.slice ka ks.len kc)) (Only.alloc _ w.heap.size (.cells #[.int .i64 k, .int .i64 n, .slice la ls.len lc, .slice ka ks.len kc] 29))
    have hzz := HS5.out.2.2
    exact ⟨((below_set (below_set (below_set (below_set HB5.out (Nat.le_refl _) 0 _) (Nat.le_refl _) 1 _) (Nat.le_refl _) 2 _) (Nat.le_refl _) 3 _).alloc (by simp; omega) _).drew, la, lc, ka, kc, rfl, (HS5.out.1.carry (lo' := w.heap.size) u0 (by rw [hzz]; omega) (by rw [hzz]; omega)).drawn, (HS5.out.2.1.carry (lo' := w.heap.size) u0 (by rw [hzz]; omega) (by rw [hzz]; omega)).drawn⟩
set_option maxRecDepth 100000 in
set_option maxHeartbeats 1000000 in
theorem r14Get_no (s : ByteArray) (a : Int) (w : World) (hs : s.size ≤ maxLen) (ha : a < 0 ∨ (s.size : Int) < a) : Calls Try.prog 22 #[.string s, .int .i64 a] w (TgPost (.no 1) w) := by
  unfold maxLen at hs
  have HE : Hid (TgPost (.no 1) w (.returned (.tuple #[.agg #[.int .i64 0, .int .i64 0, .slice none 0 0, .slice none 0 0], .int .i64 0, .int .i64 1])) (w.alloc (.cells #[.int .i64 0, .int .i64 0, .slice none 0 0, .slice none 0 0] 29))) := Lib.hid ⟨(Below.refl _ _).alloc (Nat.le_refl _) _, rfl⟩
  rcases ha with ha | ha
  · go_enter Try.func22, Try.ntmps22
    go_wp2_with fail
    refine bodyPost_ret (v := .tuple #[.agg #[.int .i64 0, .int .i64 0, .slice none 0 0, .slice none 0 0], .int .i64 0, .int .i64 1]) (by simp [results, Try.results22, go_sem]) rfl ?_
    exact HE.out
  · have h0 : ¬ a < 0 := by omega
    go_enter Try.func22, Try.ntmps22
    go_wp2_with fail
    refine bodyPost_ret (v := .tuple #[.agg #[.int .i64 0, .int .i64 0, .slice none 0 0, .slice none 0 0], .int .i64 0, .int .i64 1]) (by simp [results, Try.results22, go_sem]) rfl ?_
    exact HE.out
/-- What both Gets tell at any place. -/
def ansT (s : ByteArray) (a : Int) : Tl := if a < 0 ∨ (s.size : Int) < a then .no 1 else rdT s 30 0 a.toNat 0
theorem r14Get_ans (s : ByteArray) (a : Int) (w : World) (hs : s.size ≤ maxLen) : Calls Try.prog 22 #[.string s, .int .i64 a] w (TgPost (ansT s a) w) := by
  unfold ansT
  by_cases h : a < 0 ∨ (s.size : Int) < a
  · rw [if_pos h]; exact r14Get_no s a w hs h
  · rw [if_neg h]
    have := r14Get_any s a.toNat w hs (by omega)
    rwa [show ((a.toNat : Nat) : Int) = a by omega] at this
end Go.Proofs.Ythnkoamabfaioaa
