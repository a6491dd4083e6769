/- The contract of the law's own first question: what any right program answers. No condition. -/
import Derived.Test.YtmbopdlmkbbbiaaLaw5
namespace Go.Proofs.Ytmbopdlmkbbbiaa
open Go.RowKit

/-- The seven blocks that it begins with, from S on. -/
def awO5 (S : Nat) : List Obj := [.cells #[.int .i64 5, .int .i64 0, .slice none 0 0] 30, .cells #[.int .i64 5, .int .i64 1, .slice none 0 0] 30,
  .cells #[.int .i64 5, .int .i64 0, .slice none 0 0, .int .i64 5, .int .i64 1, .slice none 0 0] 30, .cells #[.int .i64 3, .int .i64 0, .slice (some ⟨S + 1 + 1, 0, none⟩) 2 2] 30,
  .cells #[.int .i64 5, .int .i64 1, .slice none 0 0] 30, .cells #[.int .i64 2, .int .i64 0, .slice (some ⟨S + 1 + 1 + 1 + 1, 0, none⟩) 1 1] 30, .cells #[.int .i64 2, .int .i64 0, .slice (some ⟨S + 1 + 1 + 1 + 1, 0, none⟩) 1 1] 30]
def allocs : World → List Obj → World
  | w, [] => w
  | w, o :: os => allocs (w.alloc o) os
theorem allocs_below : ∀ (os : List Obj) (w : World), Below w.heap.size w (allocs w os)
  | [], w => Below.refl _ _
  | o :: os, w => ((Below.refl w.heap.size w).alloc (Nat.le_refl _) o).trans ((allocs_below os (w.alloc o)).mono (by simp))
theorem allocs_size : ∀ (os : List Obj) (w : World), (allocs w os).heap.size = w.heap.size + os.length
  | [], _ => rfl
  | o :: os, w => by
    show (allocs (w.alloc o) os).heap.size = _
    rw [allocs_size os, World.size_alloc, List.length_cons]; omega
theorem allocs_at : ∀ (os : List Obj) (w : World) (i : Nat), i < os.length → (allocs w os).heap[w.heap.size + i]? = os[i]?
  | [], _, _, h => by simp at h
  | o :: os, w, 0, _ => ((allocs_below os (w.alloc o)).block _ (by simp)).trans (heap_new _ _)
  | o :: os, w, i + 1, h => by
    have := allocs_at os (w.alloc o) i (by simp at h; omega)
    rw [World.size_alloc] at this
    rw [show w.heap.size + (i + 1) = w.heap.size + 1 + i by omega]
    exact this
def AwAt5 (S : Nat) (W : World) : Prop := ∀ i, i < 7 → W.heap[S + i]? = (awO5 S)[i]?
theorem AwAt5.lt {S : Nat} {W : World} (h : AwAt5 S W) : S + 7 ≤ W.heap.size := by
  have := h 6 (by omega)
  have h2 := (Array.getElem?_eq_some_iff.1 this).1
  omega
theorem AwAt5.below {S : Nat} {W W' : World} (h : AwAt5 S W) (hb : Below W.heap.size W W') : AwAt5 S W' := fun i hi => (hb.block _ (by have := h.lt; omega)).trans (h i hi)
theorem AwAt5.facts {S : Nat} {W : World} (h : AwAt5 S W) :
    (W.cell? ⟨S + 1, 0, none⟩ = some (.int .i64 5) ∧ W.cell? ⟨S + 1, 1, none⟩ = some (.int .i64 1) ∧ W.cell? ⟨S + 1, 2, none⟩ = some (.slice none 0 0)) ∧
    (W.cell? ⟨S + 1 + 1 + 1, 0, none⟩ = some (.int .i64 3) ∧ W.cell? ⟨S + 1 + 1 + 1, 1, none⟩ = some (.int .i64 0) ∧ W.cell? ⟨S + 1 + 1 + 1, 2, none⟩ = some (.slice (some ⟨S + 1 + 1, 0, none⟩) 2 2)) ∧
    (W.cell? ⟨S + 1 + 1 + 1 + 1 + 1, 0, none⟩ = some (.int .i64 2) ∧ W.cell? ⟨S + 1 + 1 + 1 + 1 + 1, 1, none⟩ = some (.int .i64 0) ∧ W.cell? ⟨S + 1 + 1 + 1 + 1 + 1, 2, none⟩ = some (.slice (some ⟨S + 1 + 1 + 1 + 1, 0, none⟩) 1 1)) :=
  ⟨cells3 (h 1 (by omega)), cells3 (h 3 (by omega)), cells3 (h 5 (by omega))⟩
/-- The levels that lie there. -/
def awQ5 : Fo := .cons 5 1 .nil .nil
def awF5 : Fo := .cons 5 0 .nil awQ5
def awP5 : Fo := .cons 2 0 awQ5 .nil
def awG5 : Fo := .cons 2 0 awQ5 awQ5
theorem AwAt5.q {S : Nat} {W : World} (h : AwAt5 S W) : SlIn W (· < S + 7) awQ5 (some ⟨S + 1 + 1 + 1 + 1, 0, none⟩) 1 := by
  have h4 := h 4 (by omega)
  exact SlIn.mk (Nat.le_refl _) (by omega) (show S + 1 + 1 + 1 + 1 < S + 7 by omega) (FoIn.push (cell_at h4 0) (cell_at h4 1) (cell_at h4 2) (SlIn.none _ _) trivial)
theorem AwAt5.f {S : Nat} {W : World} (h : AwAt5 S W) : SlIn W (· < S + 7) awF5 (some ⟨S + 1 + 1, 0, none⟩) 2 := by
  have h2 := h 2 (by omega)
  exact SlIn.mk (Nat.le_refl _) (by omega) (show S + 1 + 1 < S + 7 by omega) (FoIn.push (cell_at h2 0) (cell_at h2 1) (cell_at h2 2) (SlIn.none _ _) (FoIn.push (cell_at h2 3) (cell_at h2 4) (cell_at h2 5) (SlIn.none _ _) trivial))
theorem AwAt5.p {S : Nat} {W : World} (h : AwAt5 S W) : SlIn W (· < S + 7) awP5 (some ⟨S + 1 + 1 + 1 + 1 + 1 + 1, 0, none⟩) 1 := by
  have h6 := h 6 (by omega)
  exact SlIn.mk (Nat.le_refl _) (by omega) (show S + 1 + 1 + 1 + 1 + 1 + 1 < S + 7 by omega) (FoIn.push (cell_at h6 0) (cell_at h6 1) (cell_at h6 2) h.q trivial)
/-- The level that the law writes out itself. -/
theorem AwAt5.g {S : Nat} {W : World} (h : AwAt5 S W) : SlIn (W.alloc (.cells #[.int .i64 2, .int .i64 0, .slice (some ⟨S + 1 + 1 + 1 + 1, 0, none⟩) 1 1, .int .i64 5, .int .i64 1, .slice none 0 0] 30)) (· < W.heap.size + 1) awG5 (some ⟨W.heap.size, 0, none⟩) 2 := by
  have h2 := heap_new W (.cells #[.int .i64 2, .int .i64 0, .slice (some ⟨S + 1 + 1 + 1 + 1, 0, none⟩) 1 1, .int .i64 5, .int .i64 1, .slice none 0 0] 30)
  have hq : SlIn (W.alloc (.cells #[.int .i64 2, .int .i64 0, .slice (some ⟨S + 1 + 1 + 1 + 1, 0, none⟩) 1 1, .int .i64 5, .int .i64 1, .slice none 0 0] 30)) (· < W.heap.size + 1) awQ5 (some ⟨S + 1 + 1 + 1 + 1, 0, none⟩) 1 := (h.below ((Below.refl _ _).alloc (Nat.le_refl _) _)).q.mono (by have := h.lt; omega)
  exact SlIn.mk (Nat.le_refl _) (by omega) (Nat.lt_succ_self _) (FoIn.push (cell_at h2 0) (cell_at h2 1) (cell_at h2 2) hq (FoIn.push (cell_at h2 3) (cell_at h2 4) (cell_at h2 5) (SlIn.none _ _) trivial))
theorem aw51 : subT awP5 .nil 3 0 awF5 = .cons 3 0 awG5 .nil := by decide +kernel
theorem aw52 : subE awP5 .nil 3 0 awF5 = 0 := by decide +kernel
theorem aw53 : subT .nil .nil 0 0 .nil = .cons 0 0 .nil .nil := by decide +kernel
theorem aw54 : subE .nil .nil 0 0 .nil = 1 := by decide +kernel
theorem aw55 : nm1 5 3 0 awF5 [] = [0, 1] := by decide +kernel
theorem aw56 : nm1 6 3 0 awF5 [] = [] := by decide +kernel
theorem aw57 : rightB 5 10 3 0 awF5 = true := by decide +kernel

set_option maxRecDepth 100000 in
set_option maxHeartbeats 4000000 in
theorem awake5_any (w : World) : Calls Try.prog 16 #[] w fun e w' => e = .returned (.bool true) ∧ Below w.heap.size w w' ∧ 1 ≤ w'.heap.size := by
  have hA : AwAt5 w.heap.size (allocs w (awO5 w.heap.size)) := fun i hi => allocs_at _ w i hi
  have HA0 := Lib.hid hA
  have HW0 := Lib.hid (allocs_below (awO5 w.heap.size) w)
  clear hA
  have C1 : Hid (∀ W, AwAt5 w.heap.size W → Calls Try.prog 19 #[.agg #[.int .i64 3, .int .i64 0, .slice (some ⟨w.heap.size + 1 + 1, 0, none⟩) 2 2], .slice (some ⟨w.heap.size + 1 + 1 + 1 + 1 + 1 + 1, 0, none⟩) 1 1, .slice none 0 0] W fun e w' => ∃ x c, e = .returned (.tuple #[.agg #[.int .i64 3, .int .i64 0, .slice x 2 c], .int .i64 0]) ∧ SlIn w' (· < w'.heap.size) awG5 x c ∧ Below W.heap.size W w') := Lib.hid (fun W h => by
    have := sSub_any awP5 .nil 3 0 awF5 _ _ none 2 1 0 (w.heap.size + 7) W h.f h.p (SlIn.none _ _) h.lt
    rw [aw51, aw52] at this
    refine this.mono ?_
    rintro e w' ⟨k, n, F, x, c, hT, rfl, s1, b1⟩
    obtain ⟨rfl, rfl, rfl⟩ := one_eq hT.symm
    exact ⟨x, c, rfl, s1, b1⟩)
  have C2 : Hid (∀ W, Calls Try.prog 19 #[.agg #[.int .i64 0, .int .i64 0, .slice none 0 0], .slice none 0 0, .slice none 0 0] W fun e w' => ∃ x c, e = .returned (.tuple #[.agg #[.int .i64 0, .int .i64 0, .slice x 0 c], .int .i64 1]) ∧ Below W.heap.size W w') := Lib.hid (fun W => by
    have := sSub_any .nil .nil 0 0 .nil none none none 0 0 0 0 W (SlIn.none _ _) (SlIn.none _ _) (SlIn.none _ _) (Nat.zero_le _)
    rw [aw53, aw54] at this
    refine this.mono ?_
    rintro e w' ⟨k, n, F, x, c, hT, rfl, s1, b1⟩
    obtain ⟨rfl, rfl, rfl⟩ := one_eq hT.symm
    exact ⟨x, c, rfl, b1⟩)
  have C3 : Hid (∀ W, AwAt5 w.heap.size W → Calls Try.prog 22 #[.agg #[.int .i64 3, .int .i64 0, .slice (some ⟨w.heap.size + 1 + 1, 0, none⟩) 2 2]] W (NuPost [0, 1] W)) := Lib.hid (fun W h => by
    have := sParams_any 3 0 awF5 _ 2 (w.heap.size + 7) W aw57 h.f h.lt
    rw [aw55] at this
    exact this)
  have C4 : Hid (∀ W, AwAt5 w.heap.size W → Calls Try.prog 24 #[.agg #[.int .i64 3, .int .i64 0, .slice (some ⟨w.heap.size + 1 + 1, 0, none⟩) 2 2]] W (NuPost [] W)) := Lib.hid (fun W h => by
    have := sMetas_any 3 0 awF5 _ 2 (w.heap.size + 7) W aw57 h.f h.lt
    rw [aw56] at this
    exact this)
  go_enter Try.func16, Try.ntmps16
  go_wp2_with fail
  refine (C1.out _ HA0.out).mono ?_
  rintro e w1 ⟨x, c, rfl, s1, b1⟩
  have HA1 := Lib.hid (HA0.out.below b1)
  have HW1 := Lib.hid (Below.step HW0.out b1 (Nat.le_refl _))
  have S1 := Lib.hid s1
  clear b1 s1
  go_wp2_with fail
  refine (C2.out _).mono ?_
  rintro e w2 ⟨x2, c2, rfl, b2⟩
  have B12 : Hid (Below w1.heap.size w1 w2) := Lib.hid (((Below.refl _ _).alloc (Nat.le_refl _) _).trans (b2.mono (by simp)))
  have va := (b2.block w1.heap.size (by simp)).trans (heap_new w1 _)
  have HVA := Lib.hid va
  have HA2 := Lib.hid (HA1.out.below B12.out)
  have HW2 := Lib.hid (Below.step HW1.out B12.out (Nat.le_refl _))
  have hA2 := HA2.out.below ((Below.refl _ _).alloc (Nat.le_refl _) (.cells #[.int .i64 0, .int .i64 0, .slice x2 0 c2] 30))
  obtain ⟨_, ⟨q3, q4, q5⟩, _⟩ := hA2.facts
  have HA2' := Lib.hid hA2
  clear b2 va hA2
  go_wp2_with fail
  refine (C3.out _ HA2'.out).mono ?_
  rintro e w3 ⟨x3, c3, rfl, i3, b3⟩
  have B23 : Hid (Below w2.heap.size w2 w3) := Lib.hid (((Below.refl _ _).alloc (Nat.le_refl _) _).trans (b3.mono (by simp)))
  have HA3 := Lib.hid (HA2'.out.below b3)
  have HW3 := Lib.hid (Below.step HW2.out B23.out (Nat.le_refl _))
  have HVA3 := Lib.hid ((B23.out.block _ (lt_of_block HVA.out)).trans HVA.out)
  obtain ⟨g, c', hv, _, hg, hc⟩ := i3.at (i := 1) (by decide)
  obtain ⟨rfl, rfl⟩ : x3 = some ⟨g, 0, none⟩ ∧ c3 = c' := by injection hv with h1 _ h3; exact ⟨h1, h3⟩
  have HC3 := Lib.hid hc
  have HG3 := Lib.hid hg
  clear b3 q3 q4 q5 i3 hv hc hg
  obtain ⟨_, ⟨q3, q4, q5⟩, _⟩ := HA3.out.facts
  go_wp2_with fail
  refine (C4.out _ HA3.out).mono ?_
  rintro e w4 ⟨x4, c4, rfl, _, b4⟩
  have HA4 := Lib.hid (HA3.out.below b4)
  have HW4 := Lib.hid (Below.step HW3.out b4 (Nat.le_refl _))
  have va4 := (b4.block _ (lt_of_block HVA3.out)).trans HVA3.out
  have n1 := (bcell b4 g 1 HG3.out).trans HC3.out
  have B14 := Lib.hid (Below.step B12.out (Below.step B23.out b4 (Nat.le_refl _)) (Nat.le_refl _))
  clear q3 q4 q5
  obtain ⟨⟨q0, q1, q2⟩, _, ⟨q6, q7, q8⟩⟩ := HA4.out.facts
  have a0 := cell_at va4 0
  have a1 := cell_at va4 1
  have a2 := cell_at va4 2
  simp at a0 a1 a2
  have HN1 := Lib.hid n1
  have HS : Hid (Calls Try.prog 15 #[.agg #[.int .i64 3, .int .i64 0, .slice x 2 c], .agg #[.int .i64 3, .int .i64 0, .slice (some ⟨w4.heap.size, 0, none⟩) 2 2]] (w4.alloc (.cells #[.int .i64 2, .int .i64 0, .slice (some ⟨w.heap.size + 1 + 1 + 1 + 1, 0, none⟩) 1 1, .int .i64 5, .int .i64 1, .slice none 0 0] 30)) fun e w' => e = .returned (.bool true) ∧ Below (w4.alloc (.cells #[.int .i64 2, .int .i64 0, .slice (some ⟨w.heap.size + 1 + 1 + 1 + 1, 0, none⟩) 1 1, .int .i64 5, .int .i64 1, .slice none 0 0] 30)).heap.size (w4.alloc (.cells #[.int .i64 2, .int .i64 0, .slice (some ⟨w.heap.size + 1 + 1 + 1 + 1, 0, none⟩) 1 1, .int .i64 5, .int .i64 1, .slice none 0 0] 30)) w') := Lib.hid (by
    have hb5 : Below w4.heap.size w4 (w4.alloc (.cells #[.int .i64 2, .int .i64 0, .slice (some ⟨w.heap.size + 1 + 1 + 1 + 1, 0, none⟩) 1 1, .int .i64 5, .int .i64 1, .slice none 0 0] 30)) := (Below.refl _ _).alloc (Nat.le_refl _) _
    exact rSame_same awG5 3 0 x (some ⟨w4.heap.size, 0, none⟩) c 2 (w4.heap.size + 1) _ ((S1.out.below (Below.step B14.out hb5 (Nat.le_refl _))).mono (by have := B14.out.size; omega)) HA4.out.g (by simp))
  clear b4 va4 n1
  go_wp2_with fail
  refine HS.out.mono ?_
  rintro e w5 ⟨rfl, b5⟩
  have n5 : w5.cell? ⟨g, 1, none⟩ = some (.int .i64 1) := by
    have h1 : Below w4.heap.size w4 w5 := ((Below.refl _ _).alloc (Nat.le_refl _) _).trans (b5.mono (by simp))
    exact (bcell h1 g 1 (World.block_lt_of_cell? _ _ HN1.out)).trans HN1.out
  have HW5 : Hid (Below w.heap.size w w5 ∧ 1 ≤ w5.heap.size) := Lib.hid ⟨Below.step HW4.out (((Below.refl _ _).alloc (Nat.le_refl _) _).trans (b5.mono (by simp))) (Nat.le_refl _), by have := b5.size; simp at this; omega⟩
  clear b5
  go_wp2_with fail
  go_ret
  exact ⟨rfl, HW5.out⟩
end Go.Proofs.Ytmbopdlmkbbbiaa
