/- The law's own sample calls answer as any right program does: awake returns true and only makes new memory. -/
import Derived.Test.YtcgeipcffhfclaaLaw3
namespace Go.Proofs.Ytcgeipcffhfclaa
open Go.RowKit

/-- The sample level's Kids: the parameter 3. -/
def aw3 : Fo := .cons 5 3 .nil .nil
theorem aw3_put : lputV 2 0 aw3 = .tuple #[.string ⟨#[2, 5, 3]⟩, .int .i64 0] := by
  rw [lputV_yes (by decide +kernel)]
  have : encL 2 0 aw3 = [2, 5, 3] := by simp [encL, encH, encF, aw3, enc_small]
  rw [this]; rfl
theorem aw3_bad : lputV 0 0 .nil = .tuple #[.string ⟨#[]⟩, .int .i64 1] := by rw [lputV_no (by decide +kernel)]; rfl
theorem aw3_get1 : ansL ⟨#[120, 2, 5, 3, 121]⟩ 1 = .ok 2 0 aw3 4 98 := by kernel_rfl
theorem aw3_get2 : ansL ⟨#[5, 5]⟩ 0 = .no 20 := by kernel_rfl
theorem aw3_get3 : ansL ⟨#[2]⟩ 0 = .no 21 := by kernel_rfl
theorem aw3_add1 (W : World) : (Op.stringOp .add ⟨#[120]⟩ ⟨#[2, 5, 3]⟩).run Try.prog W = .ok (.string ⟨#[120, 2, 5, 3]⟩) W := by
  rw [run_string_add_sum W _ _ (by decide)]; rfl
theorem aw3_add2 (W : World) : (Op.stringOp .add ⟨#[120, 2, 5, 3]⟩ ⟨#[121]⟩).run Try.prog W = .ok (.string ⟨#[120, 2, 5, 3, 121]⟩) W := by
  rw [run_string_add_sum W _ _ (by decide)]; rfl

set_option maxRecDepth 100000 in
set_option maxHeartbeats 4000000 in
theorem awake3_any (w : World) : Calls Try.prog 9 #[] w fun e w' => e = .returned (.bool true) ∧ Below w.heap.size w w' := by
  have HP1 : Hid (∀ (W : World) (x : Option Addr) (c B : Nat), SlIn W (· < B) aw3 x c → B ≤ W.heap.size → Calls Try.prog 13 #[.agg #[.int .i64 2, .int .i64 0, .slice x 1 c]] W fun e w' => e = .returned (.tuple #[.string ⟨#[2, 5, 3]⟩, .int .i64 0]) ∧ Below W.heap.size W w') := Lib.hid (fun W x c B h1 h2 => by
    have := lPut_any 2 0 aw3 x c B W h1 h2
    rw [aw3_put] at this; exact this)
  have HP2 : Hid (∀ (W : World), Calls Try.prog 13 #[.agg #[.int .i64 0, .int .i64 0, .slice none 0 0]] W fun e w' => e = .returned (.tuple #[.string ⟨#[]⟩, .int .i64 1]) ∧ Below W.heap.size W w') := Lib.hid (fun W => by
    have := lPut_any 0 0 .nil none 0 0 W (SlIn.none _ _) (Nat.zero_le _)
    rw [aw3_bad] at this; exact this)
  have HG1 : Hid (∀ (W : World), Calls Try.prog 16 #[.string ⟨#[120, 2, 5, 3, 121]⟩, .int .i64 1] W fun e w' => ∃ x c, e = .returned (.tuple #[.agg #[.int .i64 2, .int .i64 0, .slice x 1 c], .int .i64 4, .int .i64 0]) ∧ SlIn w' (fun b => W.heap.size ≤ b ∧ b < w'.heap.size) aw3 x c ∧ Below W.heap.size W w') := Lib.hid (fun W => by
    have := lGet_ans ⟨#[120, 2, 5, 3, 121]⟩ 1 W (by decide +kernel)
    rw [aw3_get1] at this
    refine this.mono ?_
    rintro e w' ⟨hb, x, c, he, hs⟩
    exact ⟨x, c, he, hs, hb⟩)
  have HG2 : Hid (∀ (W : World), Calls Try.prog 16 #[.string ⟨#[5, 5]⟩, .int .i64 0] W fun e w' => e = .returned (.tuple #[.agg #[.int .i64 0, .int .i64 0, .slice none 0 0], .int .i64 0, .int .i64 20]) ∧ Below W.heap.size W w') := Lib.hid (fun W => by
    have := lGet_ans ⟨#[5, 5]⟩ 0 W (by decide +kernel)
    rw [aw3_get2] at this
    refine this.mono ?_
    rintro e w' ⟨hb, he⟩
    exact ⟨he, hb⟩)
  have HG3 : Hid (∀ (W : World), Calls Try.prog 16 #[.string ⟨#[2]⟩, .int .i64 0] W fun e w' => e = .returned (.tuple #[.agg #[.int .i64 0, .int .i64 0, .slice none 0 0], .int .i64 0, .int .i64 21]) ∧ Below W.heap.size W w') := Lib.hid (fun W => by
    have := lGet_ans ⟨#[2]⟩ 0 W (by decide +kernel)
    rw [aw3_get3] at this
    refine this.mono ?_
    rintro e w' ⟨hb, he⟩
    exact ⟨he, hb⟩)
  have HSAME : Hid (∀ (W : World) (x y : Option Addr) (c d B : Nat), SlIn W (· < B) aw3 x c → SlIn W (· < B) aw3 y d → B ≤ W.heap.size → Calls Try.prog 17 #[.agg #[.int .i64 2, .int .i64 0, .slice x 1 c], .agg #[.int .i64 2, .int .i64 0, .slice y 1 d]] W fun e w' => e = .returned (.bool true) ∧ Below W.heap.size W w') := Lib.hid (fun W x y c d B h1 h2 h3 => rSame_yes aw3 2 0 x y c d B W h1 h2 h3)
  have ha1 := aw3_add1
  have ha2 := aw3_add2
  have HF : Hid (((w.alloc (.cells #[.int .i64 5, .int .i64 3, .slice none 0 0] 28)).alloc (.cells #[.int .i64 2, .int .i64 0, .slice (some ⟨w.heap.size, 0, none⟩) 1 1] 28)).heap[w.heap.size + 1]? = some (.cells #[.int .i64 2, .int .i64 0, .slice (some ⟨w.heap.size, 0, none⟩) 1 1] 28 (0, 0)) ∧
      SlIn ((w.alloc (.cells #[.int .i64 5, .int .i64 3, .slice none 0 0] 28)).alloc (.cells #[.int .i64 2, .int .i64 0, .slice (some ⟨w.heap.size, 0, none⟩) 1 1] 28)) (· < w.heap.size + 1) aw3 (some ⟨w.heap.size, 0, none⟩) 1 ∧
      Below w.heap.size w ((w.alloc (.cells #[.int .i64 5, .int .i64 3, .slice none 0 0] 28)).alloc (.cells #[.int .i64 2, .int .i64 0, .slice (some ⟨w.heap.size, 0, none⟩) 1 1] 28)) ∧
      ((w.alloc (.cells #[.int .i64 5, .int .i64 3, .slice none 0 0] 28)).alloc (.cells #[.int .i64 2, .int .i64 0, .slice (some ⟨w.heap.size, 0, none⟩) 1 1] 28)).heap.size = w.heap.size + 2) := Lib.hid (by
    have u1 : ((w.alloc (.cells #[.int .i64 5, .int .i64 3, .slice none 0 0] 28)).alloc (.cells #[.int .i64 2, .int .i64 0, .slice (some ⟨w.heap.size, 0, none⟩) 1 1] 28)).heap[w.heap.size]? = some (.cells #[.int .i64 5, .int .i64 3, .slice none 0 0] 28 (0, 0)) := (heap_old _ _ (by simp)).trans (heap_new _ _)
    exact ⟨heap_second _ _ _, SlIn.mk (by simp [aw3, Fo.len]) (by omega) (by omega) (FoIn.push (cell_at u1 0) (cell_at u1 1) (cell_at u1 2) (SlIn.none _ _) trivial), ((Below.refl _ _).alloc (Nat.le_refl _) _).alloc (by simp) _, by simp⟩)
  go_enter Try.func9, Try.ntmps9
  go_wp2_with fail
  refine (HP1.out _ _ _ (w.heap.size + 1) HF.out.2.1 (by simp)).mono ?_
  rintro e w1 ⟨rfl, hb1⟩
  obtain ⟨f1, f2, f3, f4⟩ := HF.out
  have K1 : Hid (w1.heap[w.heap.size + 1]? = some (.cells #[.int .i64 2, .int .i64 0, .slice (some ⟨w.heap.size, 0, none⟩) 1 1] 28 (0, 0)) ∧ SlIn w1 (· < w1.heap.size) aw3 (some ⟨w.heap.size, 0, none⟩) 1 ∧ Below w.heap.size w w1) := Lib.hid (by
    have hz := hb1.size
    exact ⟨(hb1.block _ (by omega)).trans f1, (f2.below (hb1.mono (by omega))).mono (by omega), Below.step f3 hb1 (Nat.le_refl _)⟩)
  clear hb1 f1 f2 f3 f4 HF
  go_wp2_with fail
  refine (HG1.out _).mono ?_
  rintro e w2 ⟨x, c, rfl, hs2, hb2⟩
  have K2 : Hid (∀ W, Below (w2.heap.size + 1) (w2.alloc (.cells #[.int .i64 2, .int .i64 0, .slice x 1 c] 28)) W → W.heap[w.heap.size + 1]? = some (.cells #[.int .i64 2, .int .i64 0, .slice (some ⟨w.heap.size, 0, none⟩) 1 1] 28 (0, 0)) ∧ SlIn W (· < w2.heap.size) aw3 (some ⟨w.heap.size, 0, none⟩) 1 ∧
      W.heap[w2.heap.size]? = some (.cells #[.int .i64 2, .int .i64 0, .slice x 1 c] 28 (0, 0)) ∧ SlIn W (· < w2.heap.size) aw3 x c ∧ Below w.heap.size w W ∧ w2.heap.size < W.heap.size) := Lib.hid (by
    intro W hW
    obtain ⟨f1, f2, f3⟩ := K1.out
    have hz := hb2.size
    have b2 : Below w2.heap.size w2 W := ((Below.refl _ _).alloc (Nat.le_refl _) _).trans (hW.mono (by omega))
    have b1 : Below w1.heap.size w1 W := Below.step hb2 b2 (Nat.le_refl _)
    have hN := lt_of_block f1
    exact ⟨(b1.block _ hN).trans f1, (f2.below b1).mono hz, (hW.block _ (by omega)).trans (heap_new _ _), hs2.mine b2, Below.step f3 b1 (Nat.le_refl _), by have := hW.size; simp at this; omega⟩)
  clear hs2 hb2 K1
  go_wp2_with fail
  refine (HG2.out _).mono ?_
  rintro e w3 ⟨rfl, hb3⟩
  have K3 : Hid (Below (w2.heap.size + 1) (w2.alloc (.cells #[.int .i64 2, .int .i64 0, .slice x 1 c] 28)) w3) := Lib.hid (by simpa using hb3)
  clear hb3
  go_wp2_with fail
  refine (HG3.out _).mono ?_
  rintro e w4 ⟨rfl, hb4⟩
  have K4 : Hid (Below (w2.heap.size + 1) (w2.alloc (.cells #[.int .i64 2, .int .i64 0, .slice x 1 c] 28)) w4) := Lib.hid (by
    have hz := K3.out.size
    simp at hz
    exact Below.step (K3.out.alloc (by omega) _) hb4 (by simp))
  clear hb4 K3
  go_wp2_with fail
  refine (HP2.out _).mono ?_
  rintro e w5 ⟨rfl, hb5⟩
  have K5 : Hid (Below (w2.heap.size + 1) (w2.alloc (.cells #[.int .i64 2, .int .i64 0, .slice x 1 c] 28)) w5) := Lib.hid (by
    have hz := K4.out.size
    simp at hz
    exact Below.step (K4.out.alloc (by omega) _) hb5 (by simp))
  clear hb5 K4
  obtain ⟨g1, g2, g3, g4, g5, g6⟩ := K2.out _ K5.out
  have y0 := cell_at g1 0
  have y1 := cell_at g1 1
  have y2 := cell_at g1 2
  have z0 := cell_at g3 0
  have z1 := cell_at g3 1
  have z2 := cell_at g3 2
  simp at y0 y1 y2 z0 z1 z2
  have HS := Lib.hid (And.intro g2 (And.intro g4 g5))
  clear g1 g2 g3 g4 g5 K2 K5
  go_wp2_with fail
  refine (HSAME.out _ _ _ _ _ w2.heap.size HS.out.2.1 HS.out.1 (by omega)).mono ?_
  rintro e w6 ⟨rfl, hb6⟩
  go_wp2_with fail
  go_ret
  exact ⟨rfl, Below.step HS.out.2.2 hb6 (Nat.le_refl _)⟩
end Go.Proofs.Ytcgeipcffhfclaa
