/- The contracts of the reader's level and levels: what the recursive reader of bytes tells, or a panic with its error; nothing that was there changes but the reader's own block. -/
import Derived.Test.YthnkoamabfaioaaLrd
import Derived.Test.YthnkoamabfaioaaRow
import Derived.Test.YthnkoamabfaioaaLonce
namespace Go.Proofs.Ythnkoamabfaioaa
open Go.RowKit

/-- What reading a level answers. -/
def LvPost (R : Nat) (s : ByteArray) (r : Rl) (w : World) (e : Ending) (w' : World) : Prop := w.grownBy w' (some R) ∧
  match r with
  | .no er => e = .panicked [{ v := faultV er, recovered := false }]
  | .ok k n F q l => ∃ x c, e = .returned (.agg #[.int .i64 k, .int .i64 n, .slice x F.len c]) ∧ SlIn w' (fun b => w.heap.size ≤ b ∧ b < w'.heap.size) F x c ∧ RdAt w' R s q l
def LsPost (R : Nat) (s : ByteArray) (r : Rs) (w : World) (e : Ending) (w' : World) : Prop := w.grownBy w' (some R) ∧
  match r with
  | .no er => e = .panicked [{ v := faultV er, recovered := false }]
  | .ok F q l => ∃ x c, e = .returned (.slice x F.len c) ∧ SlIn w' (fun b => w.heap.size ≤ b ∧ b < w'.heap.size) F x c ∧ RdAt w' R s q l
theorem LvPost.no {R : Nat} {s : ByteArray} {er : Nat} {w : World} {e : Ending} {w' : World} (h : LvPost R s (.no er) w e w') : e = .panicked [{ v := faultV er, recovered := false }] ∧ w.grownBy w' (some R) := ⟨h.2, h.1⟩
theorem LvPost.ok {R : Nat} {s : ByteArray} {k n q l : Nat} {F : Fo} {w : World} {e : Ending} {w' : World} (h : LvPost R s (.ok k n F q l) w e w') :
    ∃ x c, e = .returned (.agg #[.int .i64 k, .int .i64 n, .slice x F.len c]) ∧ SlIn w' (fun b => w.heap.size ≤ b ∧ b < w'.heap.size) F x c ∧ RdAt w' R s q l ∧ w.grownBy w' (some R) := by
  obtain ⟨h1, x, c, h2, h3, h4⟩ := h
  exact ⟨x, c, h2, h3, h4, h1⟩
/-- What is known of reading one level at depth d. -/
def LvAny (R : Nat) (s : ByteArray) (d : Nat) : Prop := ∀ (p l : Nat) (w : World), RdAt w R s p l → p ≤ s.size → l ≤ 100 → Calls Try.prog 99 #[.pointer (some ⟨R, 0, none⟩), .int .i64 d] w (LvPost R s (rdL s d p l) w)

/-- What stands while the levels are read. -/
def LsR (w : World) (R : Nat) (s : ByteArray) (d c p l A j : Nat) (wr : World) : Prop :=
  ∃ (G : Fo) (p' l' : Nat), G.len = j ∧ rows (rdL s d) c p l = (rows (rdL s d) (c - j) p' l').prep G ∧ RowAt wr A c G ∧ RdAt wr R s p' l' ∧ w.grownBy wr (some R) ∧ p' ≤ s.size ∧ l' ≤ 100

set_option maxRecDepth 100000 in
set_option maxHeartbeats 2000000 in
theorem llevels_any (R : Nat) (s : ByteArray) (d : Nat) (HL : Hid (LvAny R s d)) (c p l : Nat) (w : World) (hc : c ≤ 100) (hat : RdAt w R s p l) (hp : p ≤ s.size) (hl : l ≤ 100) :
    Calls Try.prog 102 #[.pointer (some ⟨R, 0, none⟩), .int .i64 c, .int .i64 d] w (LsPost R s (rows (rdL s d) c p l) w) := by
  obtain ⟨i0, hi, hz0, hz1, hz2⟩ := info_parts infoLevel
  have hRlt := lt_of_block hat
  have HA := Lib.hid hat
  have HI := Lib.hid hi
  have HZ := Lib.hid (And.intro hz0 (And.intro hz1 hz2))
  clear hat hi hz0 hz1 hz2
  go_enter Try.func102, Try.ntmps102
  go_wp2_with (at_make; refine wpList_make_full _ rfl _ _ 26 rfl w.heap.size 33 i0 _ 3 Try.underlying26 HI.out HZ.out.1 HZ.out.2.1 _ _ _ _ c rfl rfl rfl rfl (by rw [HZ.out.2.2]; omega) (by unfold maxLen; omega) (Nat.le_refl _) ?_; intro w1 hown1 hgr1)
  have HS : Hid (LsR w R s d c p l w.heap.size 0 w1) := Lib.hid ⟨.nil, p, l, rfl, by rw [Rs.prep_nil, Nat.sub_zero], RowAt.start hown1, (hgr1.block R hRlt (by simp)).trans HA.out, ⟨hgr1.os, hgr1.tape, hgr1.output, hgr1.size, fun i hi _ => hgr1.block i hi (by simp)⟩, hp, hl⟩
  clear hown1 hgr1
  go_wp2_with fail
  go_loopw [13] (fun i wr => ∃ j : Nat, i = .int .i64 j ∧ j ≤ c ∧ Hid (LsR w R s d c p l w.heap.size j wr)) (fun i _ => c - (intOf i).toNat)
  case atStart => exact ⟨0, rfl, Nat.zero_le _, HS⟩
  case round =>
    obtain ⟨j, rfl, hj, hR⟩ := hrel
    by_cases hlt : j < c
    · obtain ⟨G, p', l', r1, r2, r3, r4, r5, r6, r7⟩ := hR.out
      have hcj : c - j = (c - (j + 1)) + 1 := by omega
      rw [hcj] at r2
      have R2 := Lib.hid r2
      have R3 := Lib.hid r3
      have R5 := Lib.hid r5
      have RO := Lib.hid (rdL_once s d p' l' r6)
      have HC := Lib.hid (HL.out p' l' wr r4 r6 r7)
      have R1 := Lib.hid r1
      clear r1 r2 r3 r4 r5 hcj
      cases hrd : rdL s d p' l' with
      | no er =>
        rw [hrd] at HC
        have HE : Hid (rows (rdL s d) c p l = .no er) := Lib.hid (by rw [R2.out, rows_no hrd]; rfl)
        clear hrd R2
        go_wp2_with fail
        refine HC.out.mono ?_
        rintro e w2 h2
        obtain ⟨rfl, hg2⟩ := h2.no
        have HG2 := Lib.hid (Only.after R5.out hg2)
        clear h2 hg2
        go_wp2_with fail
        rw [HE.out]
        exact ⟨rfl, HG2.out, rfl⟩
      | ok k n F q l2 =>
        rw [hrd] at HC RO
        have HE : Hid (rows (rdL s d) c p l = (rows (rdL s d) (c - (j + 1)) q l2).prep (G.app (.cons k n F .nil))) := Lib.hid (by rw [R2.out, rows_ok hrd, Rs.prep_prep])
        clear hrd R2
        go_wp2_with fail
        refine HC.out.mono ?_
        rintro e w2 h2
        obtain ⟨x, cc, rfl, hs2, hat2, hg2⟩ := h2.ok
        have hwlt := R3.out.lt
        have R4 := R3.out.keep hg2.size (fun b h1 h2 => Only.block hg2 h2 (by omega))
        obtain ⟨⟨u0, s0⟩, ⟨u1, s1⟩, ⟨u2, s2⟩, fz⟩ := R4.cellsAt hlt
        have HN : Hid (LsR w R s d c p l w.heap.size (j + 1) (((w2.setCell ⟨w.heap.size, j * 3, none⟩ (.int .i64 k)).setCell ⟨w.heap.size, j * 3 + 1, none⟩ (.int .i64 n)).setCell ⟨w.heap.size, j * 3 + 2, none⟩ (.slice x F.len cc))) := Lib.hid (by
          refine ⟨G.app (.cons k n F .nil), q, l2, by rw [Fo.app_len, R1.out]; rfl, HE.out, R4.store R1.out hlt k n (hs2.weak (fun b hb => ⟨by omega, hb.2⟩)), ?_, ?_, RO.out.2.2.1.2.1, by have := RO.out.2.1; omega⟩
          · have hne : R ≠ w.heap.size := by omega
            show _ = _
            rw [Below.heap_setCell _ _ _ _ hne, Below.heap_setCell _ _ _ _ hne, Below.heap_setCell _ _ _ _ hne]
            exact hat2
          · exact Only.past (Only.after R5.out hg2) (set3_any _ _ _ _ _ _ _) (Nat.le_refl _))
        clear h2 hs2 hat2 hg2 R4
        go_wp2_with fail
        go_roundw
        case rel => exact ⟨j + 1, by go_num, by omega, HN⟩
        case measure => simp [intOf]; omega
    · have d' : decide (j < c) = false := by simp; omega
      have HE : Hid (LsPost R s (rows (rdL s d) c p l) w (.returned (.slice (some ⟨w.heap.size, 0, none⟩) c c)) wr) := Lib.hid (by
        obtain ⟨G, p', l', r1, r2, r3, r4, r5, _⟩ := hR.out
        have hjc : c - j = 0 := by omega
        rw [hjc] at r2
        simp only [rows, Rs.prep, Fo.app_nil] at r2
        rw [r2]
        have hG : G.len = c := by omega
        exact ⟨r5, _, c, by rw [hG], r3.full hG (by omega) (Nat.le_refl _), r4⟩)
      go_wp2_with fail
      go_ret
      exact HE.out
end Go.Proofs.Ythnkoamabfaioaa
