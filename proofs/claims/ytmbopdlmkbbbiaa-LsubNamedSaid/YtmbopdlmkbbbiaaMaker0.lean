/- The law's own maker of levels by numbers, where there are no parameters and no unknowns: the level names none. No condition. -/
import Derived.Test.YtmbopdlmkbbbiaaMade
namespace Go.Proofs.Ytmbopdlmkbbbiaa
open Go.RowKit

set_option maxRecDepth 100000 in
set_option maxHeartbeats 16000000 in
theorem mLevel0_any (d : Nat) : ∀ (M len cap t B : Nat) (a : Option Addr) (D : Int) (w : World), MkAt w M a len cap t → U8In w (· < B) len a cap → B ≤ M → t + bud (d + 1) ≤ 99990 → D = d + 1 → d ≤ 10 →
    Calls Try.prog 26 #[.pointer (some ⟨M, 0, none⟩), .int .i64 0, .int .i64 0, .int .i64 D] w (MlOk 0 0 w M a len cap t (d + 1)) := by
  induction d with
  | zero =>
    intro M len cap t B a D w hat hin hB ht hD _
    obtain rfl : D = 1 := by omega
    clear hD
    have HT := Lib.hid ht
    have ht' : t ≤ 99990 := by omega
    clear ht
    have hM := lt_of_block hat
    have hat0 := hat.only (Only.alloc w w.heap.size (.cells #[.int .i64 0, .int .i64 0, .slice none 0 0] 30)) (by omega)
    have hin0 := hin.below ((Below.refl B w).alloc (by omega) (.cells #[.int .i64 0, .int .i64 0, .slice none 0 0] 30))
    have HR0 := Lib.hid (heap_new w (.cells #[.int .i64 0, .int .i64 0, .slice none 0 0] 30))
    go_enter Try.func26, Try.ntmps26
    go_wp2_with fail
    refine (pick_any M len cap t B a 10 _ hat0 hin0 hB (by omega) (by omega) (by omega)).mono ?_
    rintro e w1 ⟨x, hx0, hx1, rfl, hat1, hg1⟩
    have hR1 := (Only.block hg1 (b := w.heap.size) (by simp) (by omega)).trans HR0.out
    obtain ⟨r0, r1, r2⟩ := cells3 hR1
    have rf := free_of hR1
    have hRlt := lt_of_block hR1
    have hne : w.heap.size ≠ M := by omega
    have HAT := Lib.hid hat1
    have HG := Lib.hid (Only.after (Only.alloc _ _ _) hg1)
    have hin1 := Lib.hid (hin0.keep (fun b hb => Only.block hg1 (by simp; omega) (by omega)))
    clear hat0 hin0 hR1 hg1 hat1
    have hc : x = 0 ∨ x = 1 ∨ x = 2 ∨ x = 3 ∨ x = 4 ∨ x = 5 ∨ x = 6 ∨ x = 7 ∨ x = 8 ∨ x = 9 := by omega
    clear hx0 hx1
    rcases hc with rfl | rfl | rfl | rfl | rfl | rfl | rfl | rfl | rfl | rfl
    all_goals
      go_wp2_with fail
      refine bodyPost_ret (v := .agg #[.int .i64 1, .int .i64 0, .slice none 0 0]) (by simp [results, Try.results26, go_sem, r0, r1, r2]) rfl ?_
      exact ⟨1, 0, .nil, none, 0, t + 1, rfl, LvOk.zero (by omega), SlIn.none _ _, HAT.out.only (set3_only _ _ _ _) (by omega), Nat.add_le_add_left (Nat.le_trans (by decide : 1 ≤ 2) (bud_ge _)) t, Only.past HG.out (set3_only _ _ _ _) (Nat.le_refl _)⟩
  | succ d ih =>
    intro M len cap t B a D w hat hin hB ht hD hd
    have IH := Lib.hid ih
    clear ih
    have hD2 : 2 ≤ D := by omega
    have hD3 : D ≤ 100 := by omega
    have HD := Lib.hid hD
    have HT1 : Hid (t + 1 + bud (d + 1) ≤ 99990) := Lib.hid (by rw [bud_succ] at ht; omega)
    have HT := Lib.hid ht
    have ht' : t ≤ 99990 := by omega
    clear hD ht
    have hM := lt_of_block hat
    have hat0 := hat.only (Only.alloc w w.heap.size (.cells #[.int .i64 0, .int .i64 0, .slice none 0 0] 30)) (by omega)
    have hin0 := hin.below ((Below.refl B w).alloc (by omega) (.cells #[.int .i64 0, .int .i64 0, .slice none 0 0] 30))
    have HR0 := Lib.hid (heap_new w (.cells #[.int .i64 0, .int .i64 0, .slice none 0 0] 30))
    go_enter Try.func26, Try.ntmps26
    go_wp2_with fail
    refine (pick_any M len cap t B a 10 _ hat0 hin0 hB (by omega) (by omega) (by omega)).mono ?_
    rintro e w1 ⟨x, hx0, hx1, rfl, hat1, hg1⟩
    have hR1 := (Only.block hg1 (b := w.heap.size) (by simp) (by omega)).trans HR0.out
    obtain ⟨r0, r1, r2⟩ := cells3 hR1
    have rf := free_of hR1
    have hRlt := lt_of_block hR1
    have hne : w.heap.size ≠ M := by omega
    have HAT := Lib.hid hat1
    have HG := Lib.hid (Only.after (Only.alloc _ _ _) hg1)
    have hin1 := Lib.hid (hin0.keep (fun b hb => Only.block hg1 (by simp; omega) (by omega)))
    clear hat0 hin0 hR1 hg1 hat1
    have hc : x = 0 ∨ x = 1 ∨ x = 2 ∨ x = 3 ∨ x = 4 ∨ x = 5 ∨ x = 6 ∨ x = 7 ∨ x = 8 ∨ x = 9 := by omega
    clear hx0 hx1
    rcases hc with rfl | rfl | rfl | rfl | rfl | rfl | rfl | rfl | rfl | rfl
    · go_wp2_with fail
      refine bodyPost_ret (v := .agg #[.int .i64 1, .int .i64 0, .slice none 0 0]) (by simp [results, Try.results26, go_sem, r0, r1, r2]) rfl ?_
      exact ⟨1, 0, .nil, none, 0, t + 1, rfl, LvOk.zero (by omega), SlIn.none _ _, HAT.out.only (set3_only _ _ _ _) (by omega), Nat.add_le_add_left (Nat.le_trans (by decide : 1 ≤ 2) (bud_ge _)) t, Only.past HG.out (set3_only _ _ _ _) (Nat.le_refl _)⟩
    · go_wp2_with fail
      refine bodyPost_ret (v := .agg #[.int .i64 1, .int .i64 0, .slice none 0 0]) (by simp [results, Try.results26, go_sem, r0, r1, r2]) rfl ?_
      exact ⟨1, 0, .nil, none, 0, t + 1, rfl, LvOk.zero (by omega), SlIn.none _ _, HAT.out.only (set3_only _ _ _ _) (by omega), Nat.add_le_add_left (Nat.le_trans (by decide : 1 ≤ 2) (bud_ge _)) t, Only.past HG.out (set3_only _ _ _ _) (Nat.le_refl _)⟩
    · go_wp2_with fail
      refine bodyPost_ret (v := .agg #[.int .i64 1, .int .i64 0, .slice none 0 0]) (by simp [results, Try.results26, go_sem, r0, r1, r2]) rfl ?_
      exact ⟨1, 0, .nil, none, 0, t + 1, rfl, LvOk.zero (by omega), SlIn.none _ _, HAT.out.only (set3_only _ _ _ _) (by omega), Nat.add_le_add_left (Nat.le_trans (by decide : 1 ≤ 2) (bud_ge _)) t, Only.past HG.out (set3_only _ _ _ _) (Nat.le_refl _)⟩
    · go_wp2_with fail
      refine bodyPost_ret (v := .agg #[.int .i64 1, .int .i64 0, .slice none 0 0]) (by simp [results, Try.results26, go_sem, r0, r1, r2]) rfl ?_
      exact ⟨1, 0, .nil, none, 0, t + 1, rfl, LvOk.zero (by omega), SlIn.none _ _, HAT.out.only (set3_only _ _ _ _) (by omega), Nat.add_le_add_left (Nat.le_trans (by decide : 1 ≤ 2) (bud_ge _)) t, Only.past HG.out (set3_only _ _ _ _) (Nat.le_refl _)⟩
    · go_wp2_with fail
      refine (IH.out M len cap (t + 1) B a (D - 1) _ HAT.out hin1.out hB (HT1.out) (by have := HD.out; omega) (by omega)).mono ?_
      rintro e w2 ⟨k, n, F, x, c, t2, rfl, hok, hs2, hat2, ht2, hg2⟩
      have hR2 := (World.cell?_of_block (a := ⟨w.heap.size, 0, none⟩) (Only.block hg2 hRlt hne)).trans r0
      have hR3 := (World.cell?_of_block (a := ⟨w.heap.size, 1, none⟩) (Only.block hg2 hRlt hne)).trans r1
      have hR4 := (World.cell?_of_block (a := ⟨w.heap.size, 2, none⟩) (Only.block hg2 hRlt hne)).trans r2
      have rf2 : ∀ o, w2.frozen? ⟨w.heap.size, o, none⟩ = false := fun o => (World.frozen?_of_block (a := ⟨w.heap.size, o, none⟩) (Only.block hg2 hRlt hne)).trans (rf o)
      have hRlt2 : w.heap.size < w2.heap.size := Nat.lt_of_lt_of_le hRlt hg2.size
      have HEnd := Lib.hid (MlOk.succ HG.out hRlt hM hok hs2 hat2 (show t2 ≤ t + bud (d + 1 + 1) by rw [bud_succ]; omega) hg2)
      clear hok hs2 hat2 ht2 hg2 r0 r1 r2 rf
      go_wp2_with fail
      refine bodyPost_ret (v := .agg #[.int .i64 2, .int .i64 0, .slice (some ⟨w2.heap.size, 0, none⟩) 1 1]) (by simp [results, Try.results26, go_sem, hR2, hR3, hR4, hRlt2]) rfl ?_
      exact HEnd.out
    · go_wp2_with fail
      refine (IH.out M len cap (t + 1) B a (D - 1) _ HAT.out hin1.out hB (HT1.out) (by have := HD.out; omega) (by omega)).mono ?_
      rintro e w2 ⟨k, n, F, x, c, t2, rfl, hok, hs2, hat2, ht2, hg2⟩
      have hR2 := (World.cell?_of_block (a := ⟨w.heap.size, 0, none⟩) (Only.block hg2 hRlt hne)).trans r0
      have hR3 := (World.cell?_of_block (a := ⟨w.heap.size, 1, none⟩) (Only.block hg2 hRlt hne)).trans r1
      have hR4 := (World.cell?_of_block (a := ⟨w.heap.size, 2, none⟩) (Only.block hg2 hRlt hne)).trans r2
      have rf2 : ∀ o, w2.frozen? ⟨w.heap.size, o, none⟩ = false := fun o => (World.frozen?_of_block (a := ⟨w.heap.size, o, none⟩) (Only.block hg2 hRlt hne)).trans (rf o)
      have hRlt2 : w.heap.size < w2.heap.size := Nat.lt_of_lt_of_le hRlt hg2.size
      have HEnd := Lib.hid (MlOk.succ HG.out hRlt hM hok hs2 hat2 (show t2 ≤ t + bud (d + 1 + 1) by rw [bud_succ]; omega) hg2)
      clear hok hs2 hat2 ht2 hg2 r0 r1 r2 rf
      go_wp2_with fail
      refine bodyPost_ret (v := .agg #[.int .i64 2, .int .i64 0, .slice (some ⟨w2.heap.size, 0, none⟩) 1 1]) (by simp [results, Try.results26, go_sem, hR2, hR3, hR4, hRlt2]) rfl ?_
      exact HEnd.out
    · go_wp2_with fail
      refine (IH.out M len cap (t + 1) B a (D - 1) _ HAT.out hin1.out hB (HT1.out) (by have := HD.out; omega) (by omega)).mono ?_
      rintro e w2 ⟨k, n, F, x, c, t2, rfl, hok, hs2, hat2, ht2, hg2⟩
      have HT2 : Hid (t2 + bud (d + 1) ≤ 99990) := Lib.hid (by have := HT.out; rw [bud_succ] at this; omega)
      have hin2 := Lib.hid (hin1.out.keep (fun b hb => Only.block hg2 (by omega) (by omega)))
      have HAT2 := Lib.hid hat2
      have HS2 := Lib.hid hs2
      have HOK := Lib.hid hok
      have HG2 := Lib.hid hg2
      clear hok hs2 hat2 hg2
      go_wp2_with fail
      refine (IH.out M len cap t2 B a (D - 1) _ HAT2.out hin2.out hB (HT2.out) (by have := HD.out; omega) (by omega)).mono ?_
      rintro e w3 ⟨k', n', F', x', c', t3, rfl, hok', hs3, hat3, ht3, hg3⟩
      have hg23 := Only.after HG2.out hg3
      have hR2 := (World.cell?_of_block (a := ⟨w.heap.size, 0, none⟩) (Only.block hg23 hRlt hne)).trans r0
      have hR3 := (World.cell?_of_block (a := ⟨w.heap.size, 1, none⟩) (Only.block hg23 hRlt hne)).trans r1
      have hR4 := (World.cell?_of_block (a := ⟨w.heap.size, 2, none⟩) (Only.block hg23 hRlt hne)).trans r2
      have rf2 : ∀ o, w3.frozen? ⟨w.heap.size, o, none⟩ = false := fun o => (World.frozen?_of_block (a := ⟨w.heap.size, o, none⟩) (Only.block hg23 hRlt hne)).trans (rf o)
      have hRlt2 : w.heap.size < w3.heap.size := Nat.lt_of_lt_of_le hRlt hg23.size
      have HEnd := Lib.hid (MlOk.two (q := 3) HG.out hRlt hM HOK.out HS2.out hok' hs3 hat3 (show t3 ≤ t + bud (d + 1 + 1) by rw [bud_succ]; omega) HG2.out hg3 (by decide))
      clear hok' hs3 hat3 ht3 hg3 hg23 r0 r1 r2 rf ht2
      go_wp2_with fail
      refine bodyPost_ret (v := .agg #[.int .i64 3, .int .i64 0, .slice (some ⟨w3.heap.size, 0, none⟩) 2 2]) (by simp [results, Try.results26, go_sem, hR2, hR3, hR4, hRlt2]) rfl ?_
      exact HEnd.out
    · go_wp2_with fail
      refine (IH.out M len cap (t + 1) B a (D - 1) _ HAT.out hin1.out hB (HT1.out) (by have := HD.out; omega) (by omega)).mono ?_
      rintro e w2 ⟨k, n, F, x, c, t2, rfl, hok, hs2, hat2, ht2, hg2⟩
      have HT2 : Hid (t2 + bud (d + 1) ≤ 99990) := Lib.hid (by have := HT.out; rw [bud_succ] at this; omega)
      have hin2 := Lib.hid (hin1.out.keep (fun b hb => Only.block hg2 (by omega) (by omega)))
      have HAT2 := Lib.hid hat2
      have HS2 := Lib.hid hs2
      have HOK := Lib.hid hok
      have HG2 := Lib.hid hg2
      clear hok hs2 hat2 hg2
      go_wp2_with fail
      refine (IH.out M len cap t2 B a (D - 1) _ HAT2.out hin2.out hB (HT2.out) (by have := HD.out; omega) (by omega)).mono ?_
      rintro e w3 ⟨k', n', F', x', c', t3, rfl, hok', hs3, hat3, ht3, hg3⟩
      have hg23 := Only.after HG2.out hg3
      have hR2 := (World.cell?_of_block (a := ⟨w.heap.size, 0, none⟩) (Only.block hg23 hRlt hne)).trans r0
      have hR3 := (World.cell?_of_block (a := ⟨w.heap.size, 1, none⟩) (Only.block hg23 hRlt hne)).trans r1
      have hR4 := (World.cell?_of_block (a := ⟨w.heap.size, 2, none⟩) (Only.block hg23 hRlt hne)).trans r2
      have rf2 : ∀ o, w3.frozen? ⟨w.heap.size, o, none⟩ = false := fun o => (World.frozen?_of_block (a := ⟨w.heap.size, o, none⟩) (Only.block hg23 hRlt hne)).trans (rf o)
      have hRlt2 : w.heap.size < w3.heap.size := Nat.lt_of_lt_of_le hRlt hg23.size
      have HEnd := Lib.hid (MlOk.two (q := 3) HG.out hRlt hM HOK.out HS2.out hok' hs3 hat3 (show t3 ≤ t + bud (d + 1 + 1) by rw [bud_succ]; omega) HG2.out hg3 (by decide))
      clear hok' hs3 hat3 ht3 hg3 hg23 r0 r1 r2 rf ht2
      go_wp2_with fail
      refine bodyPost_ret (v := .agg #[.int .i64 3, .int .i64 0, .slice (some ⟨w3.heap.size, 0, none⟩) 2 2]) (by simp [results, Try.results26, go_sem, hR2, hR3, hR4, hRlt2]) rfl ?_
      exact HEnd.out
    · go_wp2_with fail
      refine (IH.out M len cap (t + 1) B a (D - 1) _ HAT.out hin1.out hB (HT1.out) (by have := HD.out; omega) (by omega)).mono ?_
      rintro e w2 ⟨k, n, F, x, c, t2, rfl, hok, hs2, hat2, ht2, hg2⟩
      have HT2 : Hid (t2 + bud (d + 1) ≤ 99990) := Lib.hid (by have := HT.out; rw [bud_succ] at this; omega)
      have hin2 := Lib.hid (hin1.out.keep (fun b hb => Only.block hg2 (by omega) (by omega)))
      have HAT2 := Lib.hid hat2
      have HS2 := Lib.hid hs2
      have HOK := Lib.hid hok
      have HG2 := Lib.hid hg2
      clear hok hs2 hat2 hg2
      go_wp2_with fail
      refine (IH.out M len cap t2 B a (D - 1) _ HAT2.out hin2.out hB (HT2.out) (by have := HD.out; omega) (by omega)).mono ?_
      rintro e w3 ⟨k', n', F', x', c', t3, rfl, hok', hs3, hat3, ht3, hg3⟩
      have hg23 := Only.after HG2.out hg3
      have hR2 := (World.cell?_of_block (a := ⟨w.heap.size, 0, none⟩) (Only.block hg23 hRlt hne)).trans r0
      have hR3 := (World.cell?_of_block (a := ⟨w.heap.size, 1, none⟩) (Only.block hg23 hRlt hne)).trans r1
      have hR4 := (World.cell?_of_block (a := ⟨w.heap.size, 2, none⟩) (Only.block hg23 hRlt hne)).trans r2
      have rf2 : ∀ o, w3.frozen? ⟨w.heap.size, o, none⟩ = false := fun o => (World.frozen?_of_block (a := ⟨w.heap.size, o, none⟩) (Only.block hg23 hRlt hne)).trans (rf o)
      have hRlt2 : w.heap.size < w3.heap.size := Nat.lt_of_lt_of_le hRlt hg23.size
      have HEnd := Lib.hid (MlOk.two (q := 4) HG.out hRlt hM HOK.out HS2.out hok' hs3 hat3 (show t3 ≤ t + bud (d + 1 + 1) by rw [bud_succ]; omega) HG2.out hg3 (by decide))
      clear hok' hs3 hat3 ht3 hg3 hg23 r0 r1 r2 rf ht2
      go_wp2_with fail
      refine bodyPost_ret (v := .agg #[.int .i64 4, .int .i64 0, .slice (some ⟨w3.heap.size, 0, none⟩) 2 2]) (by simp [results, Try.results26, go_sem, hR2, hR3, hR4, hRlt2]) rfl ?_
      exact HEnd.out
    · go_wp2_with fail
      refine (IH.out M len cap (t + 1) B a (D - 1) _ HAT.out hin1.out hB (HT1.out) (by have := HD.out; omega) (by omega)).mono ?_
      rintro e w2 ⟨k, n, F, x, c, t2, rfl, hok, hs2, hat2, ht2, hg2⟩
      have HT2 : Hid (t2 + bud (d + 1) ≤ 99990) := Lib.hid (by have := HT.out; rw [bud_succ] at this; omega)
      have hin2 := Lib.hid (hin1.out.keep (fun b hb => Only.block hg2 (by omega) (by omega)))
      have HAT2 := Lib.hid hat2
      have HS2 := Lib.hid hs2
      have HOK := Lib.hid hok
      have HG2 := Lib.hid hg2
      clear hok hs2 hat2 hg2
      go_wp2_with fail
      refine (IH.out M len cap t2 B a (D - 1) _ HAT2.out hin2.out hB (HT2.out) (by have := HD.out; omega) (by omega)).mono ?_
      rintro e w3 ⟨k', n', F', x', c', t3, rfl, hok', hs3, hat3, ht3, hg3⟩
      have hg23 := Only.after HG2.out hg3
      have hR2 := (World.cell?_of_block (a := ⟨w.heap.size, 0, none⟩) (Only.block hg23 hRlt hne)).trans r0
      have hR3 := (World.cell?_of_block (a := ⟨w.heap.size, 1, none⟩) (Only.block hg23 hRlt hne)).trans r1
      have hR4 := (World.cell?_of_block (a := ⟨w.heap.size, 2, none⟩) (Only.block hg23 hRlt hne)).trans r2
      have rf2 : ∀ o, w3.frozen? ⟨w.heap.size, o, none⟩ = false := fun o => (World.frozen?_of_block (a := ⟨w.heap.size, o, none⟩) (Only.block hg23 hRlt hne)).trans (rf o)
      have hRlt2 : w.heap.size < w3.heap.size := Nat.lt_of_lt_of_le hRlt hg23.size
      have HEnd := Lib.hid (MlOk.two (q := 4) HG.out hRlt hM HOK.out HS2.out hok' hs3 hat3 (show t3 ≤ t + bud (d + 1 + 1) by rw [bud_succ]; omega) HG2.out hg3 (by decide))
      clear hok' hs3 hat3 ht3 hg3 hg23 r0 r1 r2 rf ht2
      go_wp2_with fail
      refine bodyPost_ret (v := .agg #[.int .i64 4, .int .i64 0, .slice (some ⟨w3.heap.size, 0, none⟩) 2 2]) (by simp [results, Try.results26, go_sem, hR2, hR3, hR4, hRlt2]) rfl ?_
      exact HEnd.out

set_option maxRecDepth 100000 in
set_option maxHeartbeats 2000000 in
theorem made0_any (len cap B : Nat) (a : Option Addr) (w : World) (hin : U8In w (· < B) len a cap) (hB : B ≤ w.heap.size) :
    Calls Try.prog 9 #[.slice a len cap, .int .i64 0, .int .i64 0] w (MadeOk 0 0 w) := by
  have hb0 : Below w.heap.size w ((w.alloc (.cells #[.int .i64 0, .int .i64 0, .slice none 0 0] 30)).alloc (.cells #[.slice a len cap, .int .i64 0] 59)) := ((Below.refl _ _).alloc (Nat.le_refl _) _).alloc (by simp) _
  have hat : MkAt ((w.alloc (.cells #[.int .i64 0, .int .i64 0, .slice none 0 0] 30)).alloc (.cells #[.slice a len cap, .int .i64 0] 59)) (w.heap.size + 1) a len cap 0 := heap_second _ _ _
  have hR0 : ((w.alloc (.cells #[.int .i64 0, .int .i64 0, .slice none 0 0] 30)).alloc (.cells #[.slice a len cap, .int .i64 0] 59)).heap[w.heap.size]? = some (.cells #[.int .i64 0, .int .i64 0, .slice none 0 0] 30 (0, 0)) := (heap_old _ _ (by simp)).trans (heap_new _ _)
  have HR0 := Lib.hid hR0
  clear hR0
  go_enter Try.func9, Try.ntmps9
  go_wp2_with fail
  refine (mLevel0_any 4 (w.heap.size + 1) len cap 0 B a 5 _ hat (hin.below (hb0.mono hB)) (by omega) (by decide) (by omega) (by omega)).mono ?_
  rintro e w1 ⟨k, n, F, x, c, t', rfl, hok, hs, hat1, _, hg⟩
  have hR1 := (Only.block hg (b := w.heap.size) (by simp; omega) (by omega)).trans HR0.out
  obtain ⟨r0, r1, r2⟩ := cells3 hR1
  have rf := free_of hR1
  have hlt := lt_of_block hR1
  have hz := hg.size
  simp at hz
  have hb1 : Below w.heap.size w w1 := hb0.trans ⟨hg.os, hg.tape, hg.output, hg.size, fun b hb => Only.block hg (by simp; omega) (by omega)⟩
  have hs1 : SlIn w1 (fun b => w.heap.size + 1 ≤ b ∧ b < w1.heap.size) F x c := hs.weak (fun b hb => ⟨by have := hb.1; simp at this; omega, hb.2⟩)
  have HX := Lib.hid (⟨hok, hs1, hb1⟩ : LvOk 0 0 5 k n F ∧ SlIn w1 (fun b => w.heap.size + 1 ≤ b ∧ b < w1.heap.size) F x c ∧ Below w.heap.size w w1)
  clear hok hs hat1 hg hR1 hb1 hs1 hat hb0
  go_wp2_with fail
  refine bodyPost_ret (v := .agg #[.int .i64 k, .int .i64 n, .slice x F.len c]) (by simp [results, Try.results9, go_sem, r0, r1, r2]) rfl ?_
  obtain ⟨hok, hs1, hb1⟩ := HX.out
  exact ⟨k, n, F, x, c, rfl, hok, hs1.carry (set3_only _ _ _ _) (by omega) (by omega), ((hb1.setCell (Nat.le_refl _) _).setCell (Nat.le_refl _) _).setCell (Nat.le_refl _) _⟩
end Go.Proofs.Ytmbopdlmkbbbiaa
