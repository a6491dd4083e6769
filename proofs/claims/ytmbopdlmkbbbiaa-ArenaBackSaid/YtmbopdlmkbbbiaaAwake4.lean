/- The law's own sample calls on arenas answer as any right program does: awake returns true and only makes new memory. No condition. -/
import Derived.Test.YtmbopdlmkbbbiaaTold4
import Derived.Laws.MakeOwn
import Derived.Laws.Entries
namespace Go.Proofs.Ytmbopdlmkbbbiaa
open Go.RowKit

/-- Zero; Succ of Zero twice. -/
def awZ4 : Fo := .cons 1 0 .nil .nil
def awF4 : Fo := .cons 2 0 awZ4 (.cons 2 0 awZ4 .nil)
def awN4 : List Nd := [⟨1, 0, 0, 0⟩, ⟨2, 0, 0, 0⟩, ⟨3, 0, 1, 1⟩]
theorem aw41 : putV [] 3 0 awF4 = (awN4, 2, 0) := by decide +kernel
theorem aw42 : putV awN4 2 0 awZ4 = (awN4, 1, 0) := by decide +kernel
theorem aw43 : getE awN4 2 = 0 := by decide +kernel
theorem aw44 : getE awN4 3 = 1 := by decide +kernel
theorem aw45 : tr awN4 2 = .cons 3 0 awF4 .nil := by decide +kernel
theorem aw46 : rightN awN4 = true := by decide +kernel
theorem aw47 : rightN [⟨0, 0, 0, 0⟩] = false := by decide +kernel
theorem aw48 : awF4.len = 2 := rfl
theorem aw49 : awZ4.len = 1 := rfl
theorem run_make_nodes (w : World) : (Instr.makeSlice 24 (.int .i64 1) (.int .i64 1)).run Try.prog w = .ok (.slice (some ⟨w.heap.size, 0, none⟩) 1 1) (w.alloc (.cells #[.int .i64 0, .int .i64 0, .int .i64 0, .int .i64 0] 41)) := by
  obtain ⟨i0, hi, hz0, hz1, hz2⟩ := info_parts infoNode
  have hr := run_make (P := Try.prog) w 24 41 i0 _ Try.underlying24 hi hz0 .i64 .i64 1 1 (by omega) (by omega) (by rw [hz2]; decide) (by omega)
  simp only [Int.toNat_one] at hr
  rw [hz1] at hr
  have hm : madeCells (Value.agg #[.int .i64 0, .int .i64 0, .int .i64 0, .int .i64 0]).cells (1 * 4) = #[.int .i64 0, .int .i64 0, .int .i64 0, .int .i64 0] := by
    kernel_rfl
  rw [hm] at hr
  exact hr
/-- What lies there when the sample levels have been laid. -/
structure AwAt4 (N : Nat) (W : World) : Prop where
  o : W.heap[N + 1]? = some (.cells #[.int .i64 2, .int .i64 0, .slice (some ⟨N, 0, none⟩) 1 1] 30 (0, 0))
  l : W.heap[N + 1 + 1 + 1]? = some (.cells #[.int .i64 3, .int .i64 0, .slice (some ⟨N + 1 + 1, 0, none⟩) 2 2] 30 (0, 0))
  z : SlIn W (· < N + 1 + 1 + 1 + 1) awZ4 (some ⟨N, 0, none⟩) 1
  f : SlIn W (· < N + 1 + 1 + 1 + 1) awF4 (some ⟨N + 1 + 1, 0, none⟩) 2
theorem AwAt4.below {N : Nat} {W W' : World} (h : AwAt4 N W) (hb : Below W.heap.size W W') : AwAt4 N W' := by
  have h1 := lt_of_block h.o
  have h2 := lt_of_block h.l
  exact ⟨(hb.block _ h1).trans h.o, (hb.block _ h2).trans h.l, h.z.below (hb.mono (by omega)), h.f.below (hb.mono (by omega))⟩
theorem AwAt4.facts {N : Nat} {W : World} (h : AwAt4 N W) : W.cell? ⟨N + 1, 0, none⟩ = some (.int .i64 2) ∧ W.cell? ⟨N + 1, 1, none⟩ = some (.int .i64 0) ∧ W.cell? ⟨N + 1, 2, none⟩ = some (.slice (some ⟨N, 0, none⟩) 1 1) ∧
    W.cell? ⟨N + 1 + 1 + 1, 0, none⟩ = some (.int .i64 3) ∧ W.cell? ⟨N + 1 + 1 + 1, 1, none⟩ = some (.int .i64 0) ∧ W.cell? ⟨N + 1 + 1 + 1, 2, none⟩ = some (.slice (some ⟨N + 1 + 1, 0, none⟩) 2 2) ∧ N + 1 < W.heap.size ∧ N + 1 + 1 + 1 < W.heap.size :=
  ⟨cell_at h.o 0, cell_at h.o 1, cell_at h.o 2, cell_at h.l 0, cell_at h.l 1, cell_at h.l 2, lt_of_block h.o, lt_of_block h.l⟩
theorem AwAt4.start (w : World) : AwAt4 w.heap.size ((((w.alloc (.cells #[.int .i64 1, .int .i64 0, .slice none 0 0] 30)).alloc (.cells #[.int .i64 2, .int .i64 0, .slice (some ⟨w.heap.size, 0, none⟩) 1 1] 30)).alloc (.cells #[.int .i64 2, .int .i64 0, .slice (some ⟨w.heap.size, 0, none⟩) 1 1, .int .i64 2, .int .i64 0, .slice (some ⟨w.heap.size, 0, none⟩) 1 1] 30)).alloc (.cells #[.int .i64 3, .int .i64 0, .slice (some ⟨w.heap.size + 1 + 1, 0, none⟩) 2 2] 30)) ∧
    Below w.heap.size w ((((w.alloc (.cells #[.int .i64 1, .int .i64 0, .slice none 0 0] 30)).alloc (.cells #[.int .i64 2, .int .i64 0, .slice (some ⟨w.heap.size, 0, none⟩) 1 1] 30)).alloc (.cells #[.int .i64 2, .int .i64 0, .slice (some ⟨w.heap.size, 0, none⟩) 1 1, .int .i64 2, .int .i64 0, .slice (some ⟨w.heap.size, 0, none⟩) 1 1] 30)).alloc (.cells #[.int .i64 3, .int .i64 0, .slice (some ⟨w.heap.size + 1 + 1, 0, none⟩) 2 2] 30)) := by
  generalize hA : Obj.cells #[.int .i64 1, .int .i64 0, .slice none 0 0] 30 = oA
  generalize hB : Obj.cells #[.int .i64 2, .int .i64 0, .slice (some ⟨w.heap.size, 0, none⟩) 1 1] 30 = oB
  generalize hC : Obj.cells #[.int .i64 2, .int .i64 0, .slice (some ⟨w.heap.size, 0, none⟩) 1 1, .int .i64 2, .int .i64 0, .slice (some ⟨w.heap.size, 0, none⟩) 1 1] 30 = oC
  generalize hD : Obj.cells #[.int .i64 3, .int .i64 0, .slice (some ⟨w.heap.size + 1 + 1, 0, none⟩) 2 2] 30 = oD
  have bA : ((((w.alloc oA).alloc oB).alloc oC).alloc oD).heap[w.heap.size]? = some oA := by rw [heap_old _ _ (by simp; omega), heap_old _ _ (by simp; omega), heap_old _ _ (by simp), heap_new]
  have bB : ((((w.alloc oA).alloc oB).alloc oC).alloc oD).heap[w.heap.size + 1]? = some oB := by rw [heap_old _ _ (by simp), heap_old _ _ (by simp)]; exact heap_second _ _ _
  have bC : ((((w.alloc oA).alloc oB).alloc oC).alloc oD).heap[w.heap.size + 1 + 1]? = some oC := by
    rw [heap_old _ _ (by simp)]
    have := heap_new ((w.alloc oA).alloc oB) oC
    simpa using this
  have bD : ((((w.alloc oA).alloc oB).alloc oC).alloc oD).heap[w.heap.size + 1 + 1 + 1]? = some oD := by
    have := heap_new (((w.alloc oA).alloc oB).alloc oC) oD
    simpa using this
  have hb : Below w.heap.size w ((((w.alloc oA).alloc oB).alloc oC).alloc oD) := ((((Below.refl _ _).alloc (Nat.le_refl _) _).alloc (by simp) _).alloc (by simp; omega) _).alloc (by simp; omega) _
  generalize (((w.alloc oA).alloc oB).alloc oC).alloc oD = W at bA bB bC bD hb ⊢
  subst hA hB hC hD
  have hz : SlIn W (· < w.heap.size + 1 + 1 + 1 + 1) awZ4 (some ⟨w.heap.size, 0, none⟩) 1 := SlIn.mk (Nat.le_refl _) (by omega) (by omega) (FoIn.push (cell_at bA 0) (cell_at bA 1) (cell_at bA 2) (SlIn.none _ _) trivial)
  exact ⟨⟨bB, bD, hz, SlIn.mk (Nat.le_refl _) (by omega) (by omega) (FoIn.push (cell_at bC 0) (cell_at bC 1) (cell_at bC 2) hz (FoIn.push (cell_at bC 3) (cell_at bC 4) (cell_at bC 5) hz trivial))⟩, hb⟩

/-- What both Puts of the sample answer. -/
def AwPut (i : Nat) (w : World) (e : Ending) (w' : World) : Prop := ∃ x c, e = .returned (.tuple #[.agg #[.slice x 3 c], .int .i64 i, .int .i64 0]) ∧ NOwn w' w.heap.size (.slice x 3 c) awN4 ∧ Below w.heap.size w w'
theorem AwPut.of {i : Nat} {w : World} {e : Ending} {w' : World} (h : PtPost (awN4, i, 0) w e w') : AwPut i w e w' := h

set_option maxRecDepth 100000 in
set_option maxHeartbeats 8000000 in
theorem awake4_any (w : World) : Calls Try.prog 11 #[] w fun e w' => e = .returned (.bool true) ∧ Below w.heap.size w w' := by
  obtain ⟨hA, hW⟩ := AwAt4.start w
  have HA0 := Lib.hid hA
  have HW0 := Lib.hid hW
  clear hA hW
  have P1 : Hid (∀ (B : Nat) (W : World), SlIn W (· < B) awF4 (some ⟨w.heap.size + 1 + 1, 0, none⟩) 2 → B ≤ W.heap.size → Calls Try.prog 12 #[.agg #[.slice none 0 0], .agg #[.int .i64 3, .int .i64 0, .slice (some ⟨w.heap.size + 1 + 1, 0, none⟩) 2 2]] W (AwPut 2 W)) := Lib.hid (fun B W h1 h2 => by
    have := aPut_any [] none 0 3 0 awF4 (some ⟨w.heap.size + 1 + 1, 0, none⟩) 2 B W ⟨Nat.le_refl _, Nat.zero_le _, fun _ => rfl, fun h => absurd h (by decide)⟩ h1 h2 (by decide)
    rw [aw41] at this
    exact this)
  have P2 : Hid (∀ (x : Option Addr) (c B : Nat) (W : World), NsIn W (· < B) awN4 x c → SlIn W (· < B) awZ4 (some ⟨w.heap.size, 0, none⟩) 1 → B ≤ W.heap.size → Calls Try.prog 12 #[.agg #[.slice x 3 c], .agg #[.int .i64 2, .int .i64 0, .slice (some ⟨w.heap.size, 0, none⟩) 1 1]] W (AwPut 1 W)) := Lib.hid (fun x c B W h1 h2 h3 => by
    have := aPut_any awN4 x c 2 0 awZ4 (some ⟨w.heap.size, 0, none⟩) 1 B W h1 h2 h3 (by decide)
    rw [aw42] at this
    exact this)
  have G1 : Hid (∀ (x : Option Addr) (c B : Nat) (W : World), NsIn W (· < B) awN4 x c → B ≤ W.heap.size → Calls Try.prog 14 #[.agg #[.slice x 3 c], .int .i64 2] W fun e w' => ∃ (y : Option Addr) (d : Nat), e = .returned (.tuple #[.agg #[.int .i64 3, .int .i64 0, .slice y 2 d], .int .i64 0]) ∧ SlIn w' (fun b => W.heap.size ≤ b ∧ b < w'.heap.size) awF4 y d ∧ Below W.heap.size W w') := Lib.hid (fun x c B W h1 h2 => by
    have := aGet_any awN4 x c 2 B W h1 h2
    rw [aw43, show (2 : Int).toNat = 2 from rfl, aw45] at this
    refine this.mono ?_
    rintro e w' ⟨k, n, F, y, d, rfl, ht, hs, hb⟩
    rw [if_pos rfl] at ht
    injection ht with h1 h2 h3 _
    subst h1 h2 h3
    exact ⟨y, d, rfl, hs, hb⟩)
  have G2 : Hid (∀ (x : Option Addr) (c B : Nat) (W : World), NsIn W (· < B) awN4 x c → B ≤ W.heap.size → Calls Try.prog 14 #[.agg #[.slice x 3 c], .int .i64 3] W fun e w' => ∃ (y : Option Addr) (d : Nat), e = .returned (.tuple #[.agg #[.int .i64 0, .int .i64 0, .slice y 0 d], .int .i64 1]) ∧ Below W.heap.size W w') := Lib.hid (fun x c B W h1 h2 => by
    have := aGet_any awN4 x c 3 B W h1 h2
    rw [aw44] at this
    refine this.mono ?_
    rintro e w' ⟨k, n, F, y, d, rfl, ht, hs, hb⟩
    rw [if_neg (by omega)] at ht
    obtain ⟨rfl, rfl, rfl⟩ := ht
    exact ⟨y, d, rfl, hb⟩)
  have R1 : Hid (∀ (x : Option Addr) (c B : Nat) (W : World), NsIn W (· < B) awN4 x c → B ≤ W.heap.size → Calls Try.prog 13 #[.agg #[.slice x 3 c]] W fun e w' => e = .returned (.bool true) ∧ Below W.heap.size W w') := Lib.hid (fun x c B W h1 h2 => by
    have := aRight_any awN4 x c B W h1 h2
    rwa [aw46] at this)
  have R2 : Hid (∀ (x : Option Addr) (c B : Nat) (W : World), NsIn W (· < B) [⟨0, 0, 0, 0⟩] x c → B ≤ W.heap.size → Calls Try.prog 13 #[.agg #[.slice x 1 c]] W fun e w' => e = .returned (.bool false) ∧ Below W.heap.size W w') := Lib.hid (fun x c B W h1 h2 => by
    have := aRight_any [⟨0, 0, 0, 0⟩] x c B W h1 h2
    rwa [aw47] at this)
  have hmk := run_make_nodes
  go_enter Try.func11, Try.ntmps11
  go_wp2_with fail
  refine (P1.out (w.heap.size + 1 + 1 + 1 + 1) _ HA0.out.f (by simp)).mono ?_
  rintro e w1 ⟨x1, c1, rfl, o1, b1⟩
  have HA1 := Lib.hid (HA0.out.below b1)
  have HW1 := Lib.hid (Below.step HW0.out b1 (Nat.le_refl _))
  have HN1 : Hid (∀ W, Below w1.heap.size w1 W → NsIn W (· < w1.heap.size) awN4 x1 c1) := Lib.hid (fun W h => NOwn.later (ns := awN4) o1 W h)
  obtain ⟨q0, q1, q2, q3, q4, q5, q6, q7⟩ := HA1.out.facts
  clear b1 o1
  go_wp2_with fail
  refine (P2.out x1 c1 w1.heap.size _ (HN1.out _ ((Below.refl _ _).alloc (Nat.le_refl _) _)) ((HA1.out.below ((Below.refl _ _).alloc (Nat.le_refl _) _)).z.mono q7) (by simp)).mono ?_
  rintro e w2 ⟨x2, c2, rfl, o2, b2⟩
  have B12 : Hid (Below w1.heap.size w1 w2) := Lib.hid (((Below.refl _ _).alloc (Nat.le_refl _) _).trans (b2.mono (by simp)))
  have HA2 := Lib.hid (HA1.out.below B12.out)
  have HW2 := Lib.hid (Below.step HW1.out B12.out (Nat.le_refl _))
  have va := (b2.block w1.heap.size (by simp)).trans (heap_new w1 _)
  have HN2 : Hid (∀ W, Below w2.heap.size w2 W → NsIn W (· < w2.heap.size) awN4 x2 c2) := Lib.hid (fun W h => NOwn.later (ns := awN4) o2 W h)
  have HVa := Lib.hid va
  clear b2 o2 va q0 q1 q2 q3 q4 q5 q6 q7
  go_wp2_with fail
  refine (G1.out x2 c2 w2.heap.size _ (HN2.out _ ((Below.refl _ _).alloc (Nat.le_refl _) _)) (by simp)).mono ?_
  rintro e w3 ⟨y3, d3, rfl, s3, b3⟩
  have B23 : Hid (Below w2.heap.size w2 w3) := Lib.hid (((Below.refl _ _).alloc (Nat.le_refl _) _).trans (b3.mono (by simp)))
  have HA3 := Lib.hid (HA2.out.below B23.out)
  have HW3 := Lib.hid (Below.step HW2.out B23.out (Nat.le_refl _))
  have HVa3 := Lib.hid ((B23.out.block _ (lt_of_block HVa.out)).trans HVa.out)
  have vb := (b3.block w2.heap.size (by simp)).trans (heap_new w2 _)
  have HVb := Lib.hid vb
  have S3 := Lib.hid s3
  have q0 := cell_at vb 0
  have q1 := lt_of_block vb
  clear b3 s3 vb
  go_wp2_with fail
  refine (G2.out x2 c2 w2.heap.size _ (HN2.out _ (by exact B23.out.alloc B23.out.size _)) (by exact Nat.le_trans B23.out.size (by simp))).mono ?_
  rintro e w4 ⟨y4, d4, rfl, b4⟩
  have B34 : Hid (Below w3.heap.size w3 w4) := Lib.hid (((Below.refl _ _).alloc (Nat.le_refl _) _).trans (b4.mono (by simp)))
  have HA4 := Lib.hid (HA3.out.below B34.out)
  have HW4 := Lib.hid (Below.step HW3.out B34.out (Nat.le_refl _))
  have va4 := (B34.out.block _ (lt_of_block HVa3.out)).trans HVa3.out
  have vb4 := (B34.out.block _ (lt_of_block HVb.out)).trans HVb.out
  have vm := (b4.block w3.heap.size (by simp)).trans (heap_new w3 _)
  have HVb4 := Lib.hid vb4
  clear q0 q1 b4
  have q0 := cell_at va4 0
  have q1 := lt_of_block va4
  have q2 := cell_at vb4 0
  have q3 := lt_of_block vb4
  have q4 := cell_at vm 0
  have q5 := cell_at vm 1
  have q6 := cell_at vm 2
  have q7 := lt_of_block vm
  obtain ⟨_, _, _, p3, p4, p5, _, p7⟩ := HA4.out.facts
  have HS : Hid (∀ W, Below w4.heap.size w4 W → Calls Try.prog 15 #[.agg #[.int .i64 3, .int .i64 0, .slice y3 2 d3], .agg #[.int .i64 3, .int .i64 0, .slice (some ⟨w.heap.size + 1 + 1, 0, none⟩) 2 2]] W fun e w' => e = .returned (.bool true) ∧ Below W.heap.size W w') := Lib.hid (fun W h => by
    have h3 : Below w3.heap.size w3 W := Below.step B34.out h (Nat.le_refl _)
    have hz := h.size
    have hz2 := B34.out.size
    exact rSame_true awF4 3 0 y3 (some ⟨w.heap.size + 1 + 1, 0, none⟩) d3 2 w4.heap.size W ((S3.out.later W h3).mono hz2) ((HA4.out.below h).f.mono (by omega)) hz)
  have B24 := Lib.hid (Below.step B23.out B34.out (Nat.le_refl _))
  clear va4 vb4 vm
  go_wp2_with fail
  refine (HS.out _ (by exact (Below.refl _ _).alloc (Nat.le_refl _) _)).mono ?_
  rintro e w5 ⟨rfl, b5⟩
  have B45 : Hid (Below w4.heap.size w4 w5) := Lib.hid (((Below.refl _ _).alloc (Nat.le_refl _) _).trans (b5.mono (by simp)))
  have HW5 := Lib.hid (Below.step HW4.out B45.out (Nat.le_refl _))
  have vb5 := (B45.out.block _ (lt_of_block HVb4.out)).trans HVb4.out
  clear q0 q1 q2 q3 q4 q5 q6 q7 p3 p4 p5 p7 b5
  have q2 := cell_at vb5 0
  clear vb5
  go_wp2_with fail
  refine (R1.out x2 c2 w2.heap.size _ (HN2.out _ (by exact Below.step B24.out B45.out (Nat.le_refl _))) (by exact Nat.le_trans B24.out.size B45.out.size)).mono ?_
  rintro e w6 ⟨rfl, b6⟩
  have HW6 := Lib.hid (Below.step HW5.out b6 (Nat.le_refl _))
  have HZ : Hid (NsIn (w6.alloc (.cells #[.int .i64 0, .int .i64 0, .int .i64 0, .int .i64 0] 41)) (· < w6.heap.size + 1) [⟨0, 0, 0, 0⟩] (some ⟨w6.heap.size, 0, none⟩) 1) := Lib.hid ⟨Nat.le_refl _, by unfold maxLen; omega, (fun h => by cases h), fun _ => ⟨w6.heap.size, 0, rfl, Nat.lt_succ_self _, fun i x hx => by
    match i with
    | 0 =>
      simp at hx
      subst hx
      exact ⟨cell_at (heap_new _ _) 0, cell_at (heap_new _ _) 1, cell_at (heap_new _ _) 2, cell_at (heap_new _ _) 3⟩
    | i + 1 => simp at hx⟩⟩
  clear q2 b6
  go_wp2_with fail
  refine (R2.out _ _ _ _ HZ.out (by simp)).mono ?_
  rintro e w7 ⟨rfl, b7⟩
  have HW7 := Lib.hid (Below.step (HW6.out.alloc HW6.out.size _) b7 (Nat.le_refl _))
  clear b7
  go_wp2_with fail
  go_ret
  exact ⟨rfl, HW7.out⟩
end Go.Proofs.Ytmbopdlmkbbbiaa
