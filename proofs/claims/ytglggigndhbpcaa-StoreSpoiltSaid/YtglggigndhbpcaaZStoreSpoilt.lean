/- For all numbers the law StoreSpoilt returns true: of stores with one thing spoilt, and of very many clauses, the program tells what the document's own answer tells. No condition. -/
import Derived.Test.YtglggigndhbpcaaZLspoil
import Derived.Deep.RegionLaw
import Derived.Deep.DeepCutAuto
import Derived.Carry
namespace Go.Proofs.Ytglggigndhbpcaa.storeSpoilt
open Go.ChangeShapes Go.WideShapes Go.ChangeAt Go.RowKit

/-- How many clauses the store in the variable has. -/
def lenX (X : Nat) (W : World) : Nat := match W.cell? ⟨X, 1, none⟩ with | some (.slice _ n _) => n | _ => 0
theorem lenX_of {X : Nat} {W : World} {x : Option Addr} {n c : Nat} (h : W.cell? ⟨X, 1, none⟩ = some (.slice x n c)) : lenX X W = n := by unfold lenX; rw [h]
set_option maxRecDepth 100000 in
set_option maxHeartbeats 32000000 in
theorem walk (n how k : Int) (h0 : 0 ≤ n) (h1 : n < 256) (k0 : 0 ≤ how) (k1 : how < 256) (ll cl B : Nat) (al : Option Addr) (w : World) (hl : ByIn w (· < B) ll al cl) (hB : B ≤ w.heap.size) :
    Calls Try.prog 5 #[.int .u8 n, .slice al ll cl, .int .u8 how, .int .i64 k] w fun e w' => e = .returned (.bool true) ∧ Below w.heap.size w w' := by
  have CS := Lib.hid (made11_any n h0 h1 ll cl B al w hl hB)
  have HAW : Hid (∀ W, Calls Try.prog 12 #[] W fun e w' => e = .returned (.bool true) ∧ Below W.heap.size W w') := Lib.hid awake11_any
  generalize varsN n = V at CS
  clear hl
  go_enter Try.func5, Try.ntmps5
  go_wp2_with fail
  refine CS.out.mono ?_
  rintro e w1 ⟨l, m, x, c, xm, cm, rfl, hs, hr, hl15, b1⟩
  have HST := Lib.hid (fun (wA : World) (gF : Nat) hF bA => spb_start (wA := wA) (gF := gF) hs hr b1 hF bA)
  clear hs hr b1 CS
  go_wp2_with fail
  refine (arrow_any _ _ _ _).mono ?_
  rintro e wA ⟨gF, rfl, hF, bA⟩
  obtain ⟨B2, HB⟩ := HST.out wA gF hF bA
  clear hF bA HST
  go_upto_region 4 with fail
  generalize ((wA.alloc (.cells #[.slice (some ⟨gF, 0, none⟩) 1 1, .int .i64 0, .int .i64 0] 35)).alloc (.cells #[.int .i64 0, .int .i64 0] 27)).alloc (.cells #[.int .i64 0, .int .i64 0] 27) = W0 at HB ⊢
  generalize w1.heap.size = X at HB ⊢
  generalize wA.heap.size = R at HB ⊢
  have HBE := Lib.hid (HB.out.e (by omega))
  have hX := cell_at HB.out.1 0
  have hX1 := cell_at HB.out.1 1
  have hX2 := cell_at HB.out.1 2
  have hXz := free_of HB.out.1
  have hlay := HB.out.2.2.2.2.2.2.2.2.2.1
  obtain ⟨l1, l2, l3, l4⟩ := hlay
  simp at hX hX1 hX2
  have he : how % 8 = 0 ∨ how % 8 = 1 ∨ how % 8 = 2 ∨ how % 8 = 3 ∨ how % 8 = 4 ∨ how % 8 = 5 ∨ how % 8 = 6 ∨ how % 8 = 7 := by omega
  rcases he with he | he | he | he | he | he | he | he
  · obtain ⟨gm, cm', hv, hg1, hg2, hgc⟩ := HB.out.2.2.2.1.at (i := 0) (by have := HB.out.2.2.2.2.2.2.2.2.2.2.2.1; omega)
    have hgB := HB.out.2.2.2.2.1
    cases hv
    have hgm := hgB gm rfl
    have hfz := (IOwn.cell HB.out.2.2.2.1 rfl (i := 0) (by have := HB.out.2.2.2.2.2.2.2.2.2.2.2.1; omega)).2
    have hm0 : (0 : Int) < (m.length : Int) := by have := HB.out.2.2.2.2.2.2.2.2.2.2.2.1; omega
    have HS := Lib.hid (HBE.out.set (b := gm) (o := 0) ⟨_, hgc⟩ (by omega) (by omega) (by omega) k)
    clear hgB hgm HB HBE
    go_upto_region 23 with fail
    clear hX hX1 hX2 hXz hgc hfz
    generalize W0.setCell ⟨gm, 0, none⟩ (.int .i64 k) = WE at HS ⊢
    obtain ⟨x0, x1, x2, av, aw, g0, g1, g2⟩ := HS.out.facts
    have a0 : WE.cell? ⟨R + 1 + 1, 0, none⟩ = some (.int .i64 av) := g0
    have a1 : WE.cell? ⟨R + 1 + 1, 1, none⟩ = some (.int .i64 aw) := g1
    have a2 : ∀ o, WE.frozen? ⟨R + 1 + 1, o, none⟩ = false := g2
    clear g0 g1 g2
    by_cases hto : 20 < aw ∧ aw ≤ 1000
    · have d4 : decide (20 < aw) = true := decide_eq_true hto.1
      have d5 : decide (aw ≤ 1000) = true := decide_eq_true hto.2
      have HSF : Hid (SpE w X (R + 2) _ _ _ _ _ _ _ _ _ _ _ _ _ (WE.setCell ⟨R + 1 + 1, 1, none⟩ (.int .i64 20))) := Lib.hid (HS.out.setA 20)
      clear hto HS
      go_wp2_with fail
      refine (HAW.out _).mono ?_
      rintro e w7 ⟨rfl, b7⟩
      have S7 := Lib.hid (HSF.out.next b7)
      obtain ⟨f0, f1, f2, av', aw', g0, g1, _⟩ := S7.out.facts
      have T7 := Lib.hid (S7.out.told av' aw')
      have a0 : w7.cell? ⟨R + 1 + 1, 0, none⟩ = some (.int .i64 av') := g0
      have a1 : w7.cell? ⟨R + 1 + 1, 1, none⟩ = some (.int .i64 aw') := g1
      clear b7 g0 g1 HSF
      go_wp2_with fail
      refine T7.out.mono ?_
      rintro e w8 ⟨rfl, b8⟩
      have HE := Lib.hid (Below.step S7.out.2.2.2.2.2.2.2.2.2.2.2 b8 (Nat.le_refl _))
      clear b8 T7
      go_wp2_with fail
      go_ret
      exact ⟨rfl, HE.out⟩
    · by_cases h20 : 20 < aw
      · have d4 : decide (20 < aw) = true := decide_eq_true h20
        have d5 : decide (aw ≤ 1000) = false := decide_eq_false (fun h => hto ⟨h20, h⟩)
        have HSF := HS
        clear hto HS
        go_wp2_with fail
        refine (HAW.out _).mono ?_
        rintro e w7 ⟨rfl, b7⟩
        have S7 := Lib.hid (HSF.out.next b7)
        obtain ⟨f0, f1, f2, av', aw', g0, g1, _⟩ := S7.out.facts
        have T7 := Lib.hid (S7.out.told av' aw')
        have a0 : w7.cell? ⟨R + 1 + 1, 0, none⟩ = some (.int .i64 av') := g0
        have a1 : w7.cell? ⟨R + 1 + 1, 1, none⟩ = some (.int .i64 aw') := g1
        clear b7 g0 g1 HSF
        go_wp2_with fail
        refine T7.out.mono ?_
        rintro e w8 ⟨rfl, b8⟩
        have HE := Lib.hid (Below.step S7.out.2.2.2.2.2.2.2.2.2.2.2 b8 (Nat.le_refl _))
        clear b8 T7
        go_wp2_with fail
        go_ret
        exact ⟨rfl, HE.out⟩
      · have d4 : decide (20 < aw) = false := decide_eq_false h20
        have HSF := HS
        clear hto HS
        go_wp2_with fail
        refine (HAW.out _).mono ?_
        rintro e w7 ⟨rfl, b7⟩
        have S7 := Lib.hid (HSF.out.next b7)
        obtain ⟨f0, f1, f2, av', aw', g0, g1, _⟩ := S7.out.facts
        have T7 := Lib.hid (S7.out.told av' aw')
        have a0 : w7.cell? ⟨R + 1 + 1, 0, none⟩ = some (.int .i64 av') := g0
        have a1 : w7.cell? ⟨R + 1 + 1, 1, none⟩ = some (.int .i64 aw') := g1
        clear b7 g0 g1 HSF
        go_wp2_with fail
        refine T7.out.mono ?_
        rintro e w8 ⟨rfl, b8⟩
        have HE := Lib.hid (Below.step S7.out.2.2.2.2.2.2.2.2.2.2.2 b8 (Nat.le_refl _))
        clear b8 T7
        go_wp2_with fail
        go_ret
        exact ⟨rfl, HE.out⟩
  · have HS := Lib.hid (HBE.out.setV (by omega) k)
    clear HB HBE
    go_upto_region 23 with fail
    clear hX hX1 hX2 hXz
    generalize W0.setCell ⟨X, 0, none⟩ (.int .i64 k) = WE at HS ⊢
    obtain ⟨x0, x1, x2, av, aw, g0, g1, g2⟩ := HS.out.facts
    have a0 : WE.cell? ⟨R + 1 + 1, 0, none⟩ = some (.int .i64 av) := g0
    have a1 : WE.cell? ⟨R + 1 + 1, 1, none⟩ = some (.int .i64 aw) := g1
    have a2 : ∀ o, WE.frozen? ⟨R + 1 + 1, o, none⟩ = false := g2
    clear g0 g1 g2
    by_cases hto : 20 < aw ∧ aw ≤ 1000
    · have d4 : decide (20 < aw) = true := decide_eq_true hto.1
      have d5 : decide (aw ≤ 1000) = true := decide_eq_true hto.2
      have HSF : Hid (SpE w X (R + 2) _ _ _ _ _ _ _ _ _ _ _ _ _ (WE.setCell ⟨R + 1 + 1, 1, none⟩ (.int .i64 20))) := Lib.hid (HS.out.setA 20)
      clear hto HS
      go_wp2_with fail
      refine (HAW.out _).mono ?_
      rintro e w7 ⟨rfl, b7⟩
      have S7 := Lib.hid (HSF.out.next b7)
      obtain ⟨f0, f1, f2, av', aw', g0, g1, _⟩ := S7.out.facts
      have T7 := Lib.hid (S7.out.told av' aw')
      have a0 : w7.cell? ⟨R + 1 + 1, 0, none⟩ = some (.int .i64 av') := g0
      have a1 : w7.cell? ⟨R + 1 + 1, 1, none⟩ = some (.int .i64 aw') := g1
      clear b7 g0 g1 HSF
      go_wp2_with fail
      refine T7.out.mono ?_
      rintro e w8 ⟨rfl, b8⟩
      have HE := Lib.hid (Below.step S7.out.2.2.2.2.2.2.2.2.2.2.2 b8 (Nat.le_refl _))
      clear b8 T7
      go_wp2_with fail
      go_ret
      exact ⟨rfl, HE.out⟩
    · by_cases h20 : 20 < aw
      · have d4 : decide (20 < aw) = true := decide_eq_true h20
        have d5 : decide (aw ≤ 1000) = false := decide_eq_false (fun h => hto ⟨h20, h⟩)
        have HSF := HS
        clear hto HS
        go_wp2_with fail
        refine (HAW.out _).mono ?_
        rintro e w7 ⟨rfl, b7⟩
        have S7 := Lib.hid (HSF.out.next b7)
        obtain ⟨f0, f1, f2, av', aw', g0, g1, _⟩ := S7.out.facts
        have T7 := Lib.hid (S7.out.told av' aw')
        have a0 : w7.cell? ⟨R + 1 + 1, 0, none⟩ = some (.int .i64 av') := g0
        have a1 : w7.cell? ⟨R + 1 + 1, 1, none⟩ = some (.int .i64 aw') := g1
        clear b7 g0 g1 HSF
        go_wp2_with fail
        refine T7.out.mono ?_
        rintro e w8 ⟨rfl, b8⟩
        have HE := Lib.hid (Below.step S7.out.2.2.2.2.2.2.2.2.2.2.2 b8 (Nat.le_refl _))
        clear b8 T7
        go_wp2_with fail
        go_ret
        exact ⟨rfl, HE.out⟩
      · have d4 : decide (20 < aw) = false := decide_eq_false h20
        have HSF := HS
        clear hto HS
        go_wp2_with fail
        refine (HAW.out _).mono ?_
        rintro e w7 ⟨rfl, b7⟩
        have S7 := Lib.hid (HSF.out.next b7)
        obtain ⟨f0, f1, f2, av', aw', g0, g1, _⟩ := S7.out.facts
        have T7 := Lib.hid (S7.out.told av' aw')
        have a0 : w7.cell? ⟨R + 1 + 1, 0, none⟩ = some (.int .i64 av') := g0
        have a1 : w7.cell? ⟨R + 1 + 1, 1, none⟩ = some (.int .i64 aw') := g1
        clear b7 g0 g1 HSF
        go_wp2_with fail
        refine T7.out.mono ?_
        rintro e w8 ⟨rfl, b8⟩
        have HE := Lib.hid (Below.step S7.out.2.2.2.2.2.2.2.2.2.2.2 b8 (Nat.le_refl _))
        clear b8 T7
        go_wp2_with fail
        go_ret
        exact ⟨rfl, HE.out⟩
  · have HP := Lib.hid (fun (wB : World) (gB : Nat) (bB : Below W0.drew.heap.size W0.drew wB) (hB : AtsIn wB (fun q => W0.drew.heap.size ≤ q ∧ q < wB.heap.size) [(0, 0)] (some ⟨gB, 0, none⟩) 1) => SpB.push 1 HB.out (by omega) (bl_drew0 bB) hB)
    have hlen : (l ++ [arC 0 0 1]).length = l.length + 1 := by simp
    have HLEN := Lib.hid hlen
    clear hlen HB HBE
    go_upto_region 11 with fail
    go_region_law (first
      | (go_simp; go_at_call 17; refine (arrow_any _ _ _ _).mono ?_; rintro e wB ⟨gB, rfl, hB, bB⟩
         obtain ⟨g2, k2, w3, HR1, ca, cb, cc, cz, HSB⟩ := HP.out wB gB bB hB
         clear hB bB)
      | (refine step_append (by rfl) _ _ _ (by rfl) (by rfl) (by rfl) HR1.out ?_))
    all_goals
      have HS := Lib.hid (HSB.out.e (by rw [HLEN.out]; omega))
      rw [HLEN.out] at HS
      clear HSB HR1
      go_upto_region 23 with fail
      clear hX hX1 hX2 hXz ca cb cc cz
      generalize w3.setCell ⟨X, 1, none⟩ (.slice (some ⟨g2, 0, none⟩) (l.length + 1) k2) = WE at HS ⊢
      obtain ⟨x0, x1, x2, av, aw, g0, g1, g2⟩ := HS.out.facts
      have a0 : WE.cell? ⟨R + 1 + 1, 0, none⟩ = some (.int .i64 av) := g0
      have a1 : WE.cell? ⟨R + 1 + 1, 1, none⟩ = some (.int .i64 aw) := g1
      have a2 : ∀ o, WE.frozen? ⟨R + 1 + 1, o, none⟩ = false := g2
      clear g0 g1 g2
      by_cases hto : 20 < aw ∧ aw ≤ 1000
      · have d4 : decide (20 < aw) = true := decide_eq_true hto.1
        have d5 : decide (aw ≤ 1000) = true := decide_eq_true hto.2
        have HSF : Hid (SpE w X (R + 2) _ _ _ _ _ _ _ _ _ _ _ _ _ (WE.setCell ⟨R + 1 + 1, 1, none⟩ (.int .i64 20))) := Lib.hid (HS.out.setA 20)
        clear hto HS
        go_wp2_with fail
        refine (HAW.out _).mono ?_
        rintro e w7 ⟨rfl, b7⟩
        have S7 := Lib.hid (HSF.out.next b7)
        obtain ⟨f0, f1, f2, av', aw', g0, g1, _⟩ := S7.out.facts
        have T7 := Lib.hid (S7.out.told av' aw')
        have a0 : w7.cell? ⟨R + 1 + 1, 0, none⟩ = some (.int .i64 av') := g0
        have a1 : w7.cell? ⟨R + 1 + 1, 1, none⟩ = some (.int .i64 aw') := g1
        clear b7 g0 g1 HSF
        go_wp2_with fail
        refine T7.out.mono ?_
        rintro e w8 ⟨rfl, b8⟩
        have HE := Lib.hid (Below.step S7.out.2.2.2.2.2.2.2.2.2.2.2 b8 (Nat.le_refl _))
        clear b8 T7
        go_wp2_with fail
        go_ret
        exact ⟨rfl, HE.out⟩
      · by_cases h20 : 20 < aw
        · have d4 : decide (20 < aw) = true := decide_eq_true h20
          have d5 : decide (aw ≤ 1000) = false := decide_eq_false (fun h => hto ⟨h20, h⟩)
          have HSF := HS
          clear hto HS
          go_wp2_with fail
          refine (HAW.out _).mono ?_
          rintro e w7 ⟨rfl, b7⟩
          have S7 := Lib.hid (HSF.out.next b7)
          obtain ⟨f0, f1, f2, av', aw', g0, g1, _⟩ := S7.out.facts
          have T7 := Lib.hid (S7.out.told av' aw')
          have a0 : w7.cell? ⟨R + 1 + 1, 0, none⟩ = some (.int .i64 av') := g0
          have a1 : w7.cell? ⟨R + 1 + 1, 1, none⟩ = some (.int .i64 aw') := g1
          clear b7 g0 g1 HSF
          go_wp2_with fail
          refine T7.out.mono ?_
          rintro e w8 ⟨rfl, b8⟩
          have HE := Lib.hid (Below.step S7.out.2.2.2.2.2.2.2.2.2.2.2 b8 (Nat.le_refl _))
          clear b8 T7
          go_wp2_with fail
          go_ret
          exact ⟨rfl, HE.out⟩
        · have d4 : decide (20 < aw) = false := decide_eq_false h20
          have HSF := HS
          clear hto HS
          go_wp2_with fail
          refine (HAW.out _).mono ?_
          rintro e w7 ⟨rfl, b7⟩
          have S7 := Lib.hid (HSF.out.next b7)
          obtain ⟨f0, f1, f2, av', aw', g0, g1, _⟩ := S7.out.facts
          have T7 := Lib.hid (S7.out.told av' aw')
          have a0 : w7.cell? ⟨R + 1 + 1, 0, none⟩ = some (.int .i64 av') := g0
          have a1 : w7.cell? ⟨R + 1 + 1, 1, none⟩ = some (.int .i64 aw') := g1
          clear b7 g0 g1 HSF
          go_wp2_with fail
          refine T7.out.mono ?_
          rintro e w8 ⟨rfl, b8⟩
          have HE := Lib.hid (Below.step S7.out.2.2.2.2.2.2.2.2.2.2.2 b8 (Nat.le_refl _))
          clear b8 T7
          go_wp2_with fail
          go_ret
          exact ⟨rfl, HE.out⟩
  · have hR := HB.out.2.2.2.2.2.1
    have r1 := cell_at hR 1
    have r2 := free_of hR
    simp at r1
    have HS := Lib.hid (HBE.out.set (b := R) (o := 1) ⟨_, r1⟩ (by omega) (by omega) (by omega) k)
    clear HB HBE hR
    go_upto_region 23 with fail
    clear hX hX1 hX2 hXz r1 r2
    generalize W0.setCell ⟨R, 1, none⟩ (.int .i64 k) = WE at HS ⊢
    obtain ⟨x0, x1, x2, av, aw, g0, g1, g2⟩ := HS.out.facts
    have a0 : WE.cell? ⟨R + 1 + 1, 0, none⟩ = some (.int .i64 av) := g0
    have a1 : WE.cell? ⟨R + 1 + 1, 1, none⟩ = some (.int .i64 aw) := g1
    have a2 : ∀ o, WE.frozen? ⟨R + 1 + 1, o, none⟩ = false := g2
    clear g0 g1 g2
    by_cases hto : 20 < aw ∧ aw ≤ 1000
    · have d4 : decide (20 < aw) = true := decide_eq_true hto.1
      have d5 : decide (aw ≤ 1000) = true := decide_eq_true hto.2
      have HSF : Hid (SpE w X (R + 2) _ _ _ _ _ _ _ _ _ _ _ _ _ (WE.setCell ⟨R + 1 + 1, 1, none⟩ (.int .i64 20))) := Lib.hid (HS.out.setA 20)
      clear hto HS
      go_wp2_with fail
      refine (HAW.out _).mono ?_
      rintro e w7 ⟨rfl, b7⟩
      have S7 := Lib.hid (HSF.out.next b7)
      obtain ⟨f0, f1, f2, av', aw', g0, g1, _⟩ := S7.out.facts
      have T7 := Lib.hid (S7.out.told av' aw')
      have a0 : w7.cell? ⟨R + 1 + 1, 0, none⟩ = some (.int .i64 av') := g0
      have a1 : w7.cell? ⟨R + 1 + 1, 1, none⟩ = some (.int .i64 aw') := g1
      clear b7 g0 g1 HSF
      go_wp2_with fail
      refine T7.out.mono ?_
      rintro e w8 ⟨rfl, b8⟩
      have HE := Lib.hid (Below.step S7.out.2.2.2.2.2.2.2.2.2.2.2 b8 (Nat.le_refl _))
      clear b8 T7
      go_wp2_with fail
      go_ret
      exact ⟨rfl, HE.out⟩
    · by_cases h20 : 20 < aw
      · have d4 : decide (20 < aw) = true := decide_eq_true h20
        have d5 : decide (aw ≤ 1000) = false := decide_eq_false (fun h => hto ⟨h20, h⟩)
        have HSF := HS
        clear hto HS
        go_wp2_with fail
        refine (HAW.out _).mono ?_
        rintro e w7 ⟨rfl, b7⟩
        have S7 := Lib.hid (HSF.out.next b7)
        obtain ⟨f0, f1, f2, av', aw', g0, g1, _⟩ := S7.out.facts
        have T7 := Lib.hid (S7.out.told av' aw')
        have a0 : w7.cell? ⟨R + 1 + 1, 0, none⟩ = some (.int .i64 av') := g0
        have a1 : w7.cell? ⟨R + 1 + 1, 1, none⟩ = some (.int .i64 aw') := g1
        clear b7 g0 g1 HSF
        go_wp2_with fail
        refine T7.out.mono ?_
        rintro e w8 ⟨rfl, b8⟩
        have HE := Lib.hid (Below.step S7.out.2.2.2.2.2.2.2.2.2.2.2 b8 (Nat.le_refl _))
        clear b8 T7
        go_wp2_with fail
        go_ret
        exact ⟨rfl, HE.out⟩
      · have d4 : decide (20 < aw) = false := decide_eq_false h20
        have HSF := HS
        clear hto HS
        go_wp2_with fail
        refine (HAW.out _).mono ?_
        rintro e w7 ⟨rfl, b7⟩
        have S7 := Lib.hid (HSF.out.next b7)
        obtain ⟨f0, f1, f2, av', aw', g0, g1, _⟩ := S7.out.facts
        have T7 := Lib.hid (S7.out.told av' aw')
        have a0 : w7.cell? ⟨R + 1 + 1, 0, none⟩ = some (.int .i64 av') := g0
        have a1 : w7.cell? ⟨R + 1 + 1, 1, none⟩ = some (.int .i64 aw') := g1
        clear b7 g0 g1 HSF
        go_wp2_with fail
        refine T7.out.mono ?_
        rintro e w8 ⟨rfl, b8⟩
        have HE := Lib.hid (Below.step S7.out.2.2.2.2.2.2.2.2.2.2.2 b8 (Nat.le_refl _))
        clear b8 T7
        go_wp2_with fail
        go_ret
        exact ⟨rfl, HE.out⟩
  · have q1 := Int.emod_nonneg (how / 8) (b := 4) (by omega)
    have q2 := Int.emod_lt_of_pos (how / 8) (b := 4) (by omega)
    have hd0 : 0 ≤ how / 8 := Int.ediv_nonneg k0 (by omega)
    clear HBE
    go_wp2_with fail
    clear he hX hX1 hX2 hXz
    go_loopw [] (fun wr => ∃ (l' : List Cl) (x' : Option Addr) (c' : Nat), l'.length ≤ 60 ∧ Hid (SpB w X R B2 V l' m x' c' xm cm gF wr)) (fun wr => 64 - lenX X wr)
    case atStart => exact ⟨l, x, c, by omega, HB⟩
    case round =>
      obtain ⟨l', x', c', hl60, hS⟩ := hrel
      clear HB
      have y1 := cell_at hS.out.1 1
      have y2 := free_of hS.out.1
      simp at y1
      have hln := Lib.hid (lenX_of y1)
      by_cases hgo : (l'.length : Int) < 57 + how / 8 % 4
      · have HP := Lib.hid (fun (wB : World) (gB : Nat) (bB : Below wr.drew.heap.size wr.drew wB) (hB : AtsIn wB (fun q => wr.drew.heap.size ≤ q ∧ q < wB.heap.size) [(0, 0)] (some ⟨gB, 0, none⟩) 1) => SpB.push 0 hS.out (by omega) (bl_drew0 bB) hB)
        have d1 : decide ((l'.length : Int) < 57 + how / 8 % 4) = true := decide_eq_true hgo
        clear hS
        go_upto_region 16 with fail
        go_region_law (first
          | (go_simp; go_at_call 17; refine (arrow_any _ _ _ _).mono ?_; rintro e wB ⟨gB, rfl, hB, bB⟩
             obtain ⟨g2, k2, w3, HR1, ca, cb, cc, cz, HSB⟩ := HP.out wB gB bB hB
             clear hB bB)
          | (refine step_append (by rfl) _ _ _ (by rfl) (by rfl) (by rfl) HR1.out ?_))
        all_goals
          have hlen : Hid ((l' ++ [arC 0 0 0]).length = l'.length + 1) := Lib.hid (by simp)
          have hm2 : Hid (lenX X (w3.setCell ⟨X, 1, none⟩ (.slice (some ⟨g2, 0, none⟩) (l'.length + 1) k2)) = l'.length + 1) := Lib.hid (by
            have := lenX_of (cell_at HSB.out.1 1)
            rwa [hlen.out] at this)
          clear HP HR1 ca cb cc cz y1 y2 d1
          go_wp2_with fail
          go_roundw
        all_goals first
          | exact ⟨l' ++ [arC 0 0 0], _, k2, by rw [hlen.out]; omega, HSB⟩
          | (rw [hm2.out, hln.out]; omega)
      · have d1 : decide ((l'.length : Int) < 57 + how / 8 % 4) = false := decide_eq_false hgo
        obtain ⟨y3, k3, w3, HR1, hcc, HS⟩ := hS.out.three (by omega)
        have s0 := fun p => (hcc p p).1
        have s1 := fun p => (hcc p p).2.1
        have s2 := fun p => (hcc p p).2.2.1
        have s3 := fun p q => (hcc p q).2.2.2.1
        have s4 := fun p q => (hcc p q).2.2.2.2.1
        have s5 := fun p q => (hcc p q).2.2.2.2.2
        clear hcc hS
        go_upto_region 18 with fail
        go_region_law (refine step_append (by rfl) _ _ _ (by rfl) (by rfl) (by rfl) HR1.out ?_)
        all_goals
          clear HR1 s0 s1 s2 s3 s4 s5 y1 y2 d1 hln
          go_upto_region 23 with fail
          generalize w3 = WE at HS ⊢
          obtain ⟨x0, x1, x2, av, aw, g0, g1, g2⟩ := HS.out.facts
          have a0 : WE.cell? ⟨R + 1 + 1, 0, none⟩ = some (.int .i64 av) := g0
          have a1 : WE.cell? ⟨R + 1 + 1, 1, none⟩ = some (.int .i64 aw) := g1
          have a2 : ∀ o, WE.frozen? ⟨R + 1 + 1, o, none⟩ = false := g2
          clear g0 g1 g2
          by_cases hto : 20 < aw ∧ aw ≤ 1000
          · have d4 : decide (20 < aw) = true := decide_eq_true hto.1
            have d5 : decide (aw ≤ 1000) = true := decide_eq_true hto.2
            have HSF : Hid (SpE w X (R + 2) _ _ _ _ _ _ _ _ _ _ _ _ _ (WE.setCell ⟨R + 1 + 1, 1, none⟩ (.int .i64 20))) := Lib.hid (HS.out.setA 20)
            clear hto HS
            go_wp2_with fail
            refine (HAW.out _).mono ?_
            rintro e w7 ⟨rfl, b7⟩
            have S7 := Lib.hid (HSF.out.next b7)
            obtain ⟨f0, f1, f2, av', aw', g0, g1, _⟩ := S7.out.facts
            have T7 := Lib.hid (S7.out.told av' aw')
            have a0 : w7.cell? ⟨R + 1 + 1, 0, none⟩ = some (.int .i64 av') := g0
            have a1 : w7.cell? ⟨R + 1 + 1, 1, none⟩ = some (.int .i64 aw') := g1
            clear b7 g0 g1 HSF
            go_wp2_with fail
            refine T7.out.mono ?_
            rintro e w8 ⟨rfl, b8⟩
            have HE := Lib.hid (Below.step S7.out.2.2.2.2.2.2.2.2.2.2.2 b8 (Nat.le_refl _))
            clear b8 T7
            go_wp2_with fail
            go_ret
            exact ⟨rfl, HE.out⟩
          · by_cases h20 : 20 < aw
            · have d4 : decide (20 < aw) = true := decide_eq_true h20
              have d5 : decide (aw ≤ 1000) = false := decide_eq_false (fun h => hto ⟨h20, h⟩)
              have HSF := HS
              clear hto HS
              go_wp2_with fail
              refine (HAW.out _).mono ?_
              rintro e w7 ⟨rfl, b7⟩
              have S7 := Lib.hid (HSF.out.next b7)
              obtain ⟨f0, f1, f2, av', aw', g0, g1, _⟩ := S7.out.facts
              have T7 := Lib.hid (S7.out.told av' aw')
              have a0 : w7.cell? ⟨R + 1 + 1, 0, none⟩ = some (.int .i64 av') := g0
              have a1 : w7.cell? ⟨R + 1 + 1, 1, none⟩ = some (.int .i64 aw') := g1
              clear b7 g0 g1 HSF
              go_wp2_with fail
              refine T7.out.mono ?_
              rintro e w8 ⟨rfl, b8⟩
              have HE := Lib.hid (Below.step S7.out.2.2.2.2.2.2.2.2.2.2.2 b8 (Nat.le_refl _))
              clear b8 T7
              go_wp2_with fail
              go_ret
              exact ⟨rfl, HE.out⟩
            · have d4 : decide (20 < aw) = false := decide_eq_false h20
              have HSF := HS
              clear hto HS
              go_wp2_with fail
              refine (HAW.out _).mono ?_
              rintro e w7 ⟨rfl, b7⟩
              have S7 := Lib.hid (HSF.out.next b7)
              obtain ⟨f0, f1, f2, av', aw', g0, g1, _⟩ := S7.out.facts
              have T7 := Lib.hid (S7.out.told av' aw')
              have a0 : w7.cell? ⟨R + 1 + 1, 0, none⟩ = some (.int .i64 av') := g0
              have a1 : w7.cell? ⟨R + 1 + 1, 1, none⟩ = some (.int .i64 aw') := g1
              clear b7 g0 g1 HSF
              go_wp2_with fail
              refine T7.out.mono ?_
              rintro e w8 ⟨rfl, b8⟩
              have HE := Lib.hid (Below.step S7.out.2.2.2.2.2.2.2.2.2.2.2 b8 (Nat.le_refl _))
              clear b8 T7
              go_wp2_with fail
              go_ret
              exact ⟨rfl, HE.out⟩
  · have hR := HB.out.2.2.2.2.2.2.2.1
    have r1 := cell_at hR 1
    have r2 := free_of hR
    simp at r1
    have HS := Lib.hid (HBE.out.set (b := R + 1) (o := 1) ⟨_, r1⟩ (by omega) (by omega) (by omega) 1000)
    clear HB HBE hR
    go_upto_region 23 with fail
    clear hX hX1 hX2 hXz r1 r2
    generalize W0.setCell ⟨R + 1, 1, none⟩ (.int .i64 1000) = WE at HS ⊢
    obtain ⟨x0, x1, x2, av, aw, g0, g1, g2⟩ := HS.out.facts
    have a0 : WE.cell? ⟨R + 1 + 1, 0, none⟩ = some (.int .i64 av) := g0
    have a1 : WE.cell? ⟨R + 1 + 1, 1, none⟩ = some (.int .i64 aw) := g1
    have a2 : ∀ o, WE.frozen? ⟨R + 1 + 1, o, none⟩ = false := g2
    clear g0 g1 g2
    by_cases hto : 20 < aw ∧ aw ≤ 1000
    · have d4 : decide (20 < aw) = true := decide_eq_true hto.1
      have d5 : decide (aw ≤ 1000) = true := decide_eq_true hto.2
      have HSF : Hid (SpE w X (R + 2) _ _ _ _ _ _ _ _ _ _ _ _ _ (WE.setCell ⟨R + 1 + 1, 1, none⟩ (.int .i64 20))) := Lib.hid (HS.out.setA 20)
      clear hto HS
      go_wp2_with fail
      refine (HAW.out _).mono ?_
      rintro e w7 ⟨rfl, b7⟩
      have S7 := Lib.hid (HSF.out.next b7)
      obtain ⟨f0, f1, f2, av', aw', g0, g1, _⟩ := S7.out.facts
      have T7 := Lib.hid (S7.out.told av' aw')
      have a0 : w7.cell? ⟨R + 1 + 1, 0, none⟩ = some (.int .i64 av') := g0
      have a1 : w7.cell? ⟨R + 1 + 1, 1, none⟩ = some (.int .i64 aw') := g1
      clear b7 g0 g1 HSF
      go_wp2_with fail
      refine T7.out.mono ?_
      rintro e w8 ⟨rfl, b8⟩
      have HE := Lib.hid (Below.step S7.out.2.2.2.2.2.2.2.2.2.2.2 b8 (Nat.le_refl _))
      clear b8 T7
      go_wp2_with fail
      go_ret
      exact ⟨rfl, HE.out⟩
    · by_cases h20 : 20 < aw
      · have d4 : decide (20 < aw) = true := decide_eq_true h20
        have d5 : decide (aw ≤ 1000) = false := decide_eq_false (fun h => hto ⟨h20, h⟩)
        have HSF := HS
        clear hto HS
        go_wp2_with fail
        refine (HAW.out _).mono ?_
        rintro e w7 ⟨rfl, b7⟩
        have S7 := Lib.hid (HSF.out.next b7)
        obtain ⟨f0, f1, f2, av', aw', g0, g1, _⟩ := S7.out.facts
        have T7 := Lib.hid (S7.out.told av' aw')
        have a0 : w7.cell? ⟨R + 1 + 1, 0, none⟩ = some (.int .i64 av') := g0
        have a1 : w7.cell? ⟨R + 1 + 1, 1, none⟩ = some (.int .i64 aw') := g1
        clear b7 g0 g1 HSF
        go_wp2_with fail
        refine T7.out.mono ?_
        rintro e w8 ⟨rfl, b8⟩
        have HE := Lib.hid (Below.step S7.out.2.2.2.2.2.2.2.2.2.2.2 b8 (Nat.le_refl _))
        clear b8 T7
        go_wp2_with fail
        go_ret
        exact ⟨rfl, HE.out⟩
      · have d4 : decide (20 < aw) = false := decide_eq_false h20
        have HSF := HS
        clear hto HS
        go_wp2_with fail
        refine (HAW.out _).mono ?_
        rintro e w7 ⟨rfl, b7⟩
        have S7 := Lib.hid (HSF.out.next b7)
        obtain ⟨f0, f1, f2, av', aw', g0, g1, _⟩ := S7.out.facts
        have T7 := Lib.hid (S7.out.told av' aw')
        have a0 : w7.cell? ⟨R + 1 + 1, 0, none⟩ = some (.int .i64 av') := g0
        have a1 : w7.cell? ⟨R + 1 + 1, 1, none⟩ = some (.int .i64 aw') := g1
        clear b7 g0 g1 HSF
        go_wp2_with fail
        refine T7.out.mono ?_
        rintro e w8 ⟨rfl, b8⟩
        have HE := Lib.hid (Below.step S7.out.2.2.2.2.2.2.2.2.2.2.2 b8 (Nat.le_refl _))
        clear b8 T7
        go_wp2_with fail
        go_ret
        exact ⟨rfl, HE.out⟩
  · obtain ⟨g2, k2, w3, HR1, c2, cz, HS⟩ := HB.out.int (by omega) 0
    clear HB HBE
    go_upto_region 23 with (at_builtin; refine wpList_append_run (by rfl) _ _ _ (by rfl) (by rfl) (by rfl) HR1.out ?_)
    clear hX hX1 hX2 hXz c2 cz HR1
    generalize w3.setCell ⟨X, 2, none⟩ (.slice (some ⟨g2, 0, none⟩) (m.length + 1) k2) = WE at HS ⊢
    obtain ⟨x0, x1, x2, av, aw, g0, g1, g2⟩ := HS.out.facts
    have a0 : WE.cell? ⟨R + 1 + 1, 0, none⟩ = some (.int .i64 av) := g0
    have a1 : WE.cell? ⟨R + 1 + 1, 1, none⟩ = some (.int .i64 aw) := g1
    have a2 : ∀ o, WE.frozen? ⟨R + 1 + 1, o, none⟩ = false := g2
    clear g0 g1 g2
    by_cases hto : 20 < aw ∧ aw ≤ 1000
    · have d4 : decide (20 < aw) = true := decide_eq_true hto.1
      have d5 : decide (aw ≤ 1000) = true := decide_eq_true hto.2
      have HSF : Hid (SpE w X (R + 2) _ _ _ _ _ _ _ _ _ _ _ _ _ (WE.setCell ⟨R + 1 + 1, 1, none⟩ (.int .i64 20))) := Lib.hid (HS.out.setA 20)
      clear hto HS
      go_wp2_with fail
      refine (HAW.out _).mono ?_
      rintro e w7 ⟨rfl, b7⟩
      have S7 := Lib.hid (HSF.out.next b7)
      obtain ⟨f0, f1, f2, av', aw', g0, g1, _⟩ := S7.out.facts
      have T7 := Lib.hid (S7.out.told av' aw')
      have a0 : w7.cell? ⟨R + 1 + 1, 0, none⟩ = some (.int .i64 av') := g0
      have a1 : w7.cell? ⟨R + 1 + 1, 1, none⟩ = some (.int .i64 aw') := g1
      clear b7 g0 g1 HSF
      go_wp2_with fail
      refine T7.out.mono ?_
      rintro e w8 ⟨rfl, b8⟩
      have HE := Lib.hid (Below.step S7.out.2.2.2.2.2.2.2.2.2.2.2 b8 (Nat.le_refl _))
      clear b8 T7
      go_wp2_with fail
      go_ret
      exact ⟨rfl, HE.out⟩
    · by_cases h20 : 20 < aw
      · have d4 : decide (20 < aw) = true := decide_eq_true h20
        have d5 : decide (aw ≤ 1000) = false := decide_eq_false (fun h => hto ⟨h20, h⟩)
        have HSF := HS
        clear hto HS
        go_wp2_with fail
        refine (HAW.out _).mono ?_
        rintro e w7 ⟨rfl, b7⟩
        have S7 := Lib.hid (HSF.out.next b7)
        obtain ⟨f0, f1, f2, av', aw', g0, g1, _⟩ := S7.out.facts
        have T7 := Lib.hid (S7.out.told av' aw')
        have a0 : w7.cell? ⟨R + 1 + 1, 0, none⟩ = some (.int .i64 av') := g0
        have a1 : w7.cell? ⟨R + 1 + 1, 1, none⟩ = some (.int .i64 aw') := g1
        clear b7 g0 g1 HSF
        go_wp2_with fail
        refine T7.out.mono ?_
        rintro e w8 ⟨rfl, b8⟩
        have HE := Lib.hid (Below.step S7.out.2.2.2.2.2.2.2.2.2.2.2 b8 (Nat.le_refl _))
        clear b8 T7
        go_wp2_with fail
        go_ret
        exact ⟨rfl, HE.out⟩
      · have d4 : decide (20 < aw) = false := decide_eq_false h20
        have HSF := HS
        clear hto HS
        go_wp2_with fail
        refine (HAW.out _).mono ?_
        rintro e w7 ⟨rfl, b7⟩
        have S7 := Lib.hid (HSF.out.next b7)
        obtain ⟨f0, f1, f2, av', aw', g0, g1, _⟩ := S7.out.facts
        have T7 := Lib.hid (S7.out.told av' aw')
        have a0 : w7.cell? ⟨R + 1 + 1, 0, none⟩ = some (.int .i64 av') := g0
        have a1 : w7.cell? ⟨R + 1 + 1, 1, none⟩ = some (.int .i64 aw') := g1
        clear b7 g0 g1 HSF
        go_wp2_with fail
        refine T7.out.mono ?_
        rintro e w8 ⟨rfl, b8⟩
        have HE := Lib.hid (Below.step S7.out.2.2.2.2.2.2.2.2.2.2.2 b8 (Nat.le_refl _))
        clear b8 T7
        go_wp2_with fail
        go_ret
        exact ⟨rfl, HE.out⟩
  · have hA := HB.out.2.2.2.2.2.2.2.2.1
    have r1 : W0.cell? ⟨R + 1 + 1, 1, none⟩ = some (.int .i64 0) := cell_at hA 1
    have r2 : ∀ o, W0.frozen? ⟨R + 1 + 1, o, none⟩ = false := free_of hA
    have HS : Hid (SpE w X (R + 2) _ _ _ _ _ _ _ _ _ _ _ _ _ (W0.setCell ⟨R + 1 + 1, 1, none⟩ (.int .i64 k))) := Lib.hid (HBE.out.setA k)
    clear HB HBE hA
    go_upto_region 23 with fail
    clear hX hX1 hX2 hXz r1 r2
    generalize W0.setCell ⟨R + 1 + 1, 1, none⟩ (.int .i64 k) = WE at HS ⊢
    obtain ⟨x0, x1, x2, av, aw, g0, g1, g2⟩ := HS.out.facts
    have a0 : WE.cell? ⟨R + 1 + 1, 0, none⟩ = some (.int .i64 av) := g0
    have a1 : WE.cell? ⟨R + 1 + 1, 1, none⟩ = some (.int .i64 aw) := g1
    have a2 : ∀ o, WE.frozen? ⟨R + 1 + 1, o, none⟩ = false := g2
    clear g0 g1 g2
    by_cases hto : 20 < aw ∧ aw ≤ 1000
    · have d4 : decide (20 < aw) = true := decide_eq_true hto.1
      have d5 : decide (aw ≤ 1000) = true := decide_eq_true hto.2
      have HSF : Hid (SpE w X (R + 2) _ _ _ _ _ _ _ _ _ _ _ _ _ (WE.setCell ⟨R + 1 + 1, 1, none⟩ (.int .i64 20))) := Lib.hid (HS.out.setA 20)
      clear hto HS
      go_wp2_with fail
      refine (HAW.out _).mono ?_
      rintro e w7 ⟨rfl, b7⟩
      have S7 := Lib.hid (HSF.out.next b7)
      obtain ⟨f0, f1, f2, av', aw', g0, g1, _⟩ := S7.out.facts
      have T7 := Lib.hid (S7.out.told av' aw')
      have a0 : w7.cell? ⟨R + 1 + 1, 0, none⟩ = some (.int .i64 av') := g0
      have a1 : w7.cell? ⟨R + 1 + 1, 1, none⟩ = some (.int .i64 aw') := g1
      clear b7 g0 g1 HSF
      go_wp2_with fail
      refine T7.out.mono ?_
      rintro e w8 ⟨rfl, b8⟩
      have HE := Lib.hid (Below.step S7.out.2.2.2.2.2.2.2.2.2.2.2 b8 (Nat.le_refl _))
      clear b8 T7
      go_wp2_with fail
      go_ret
      exact ⟨rfl, HE.out⟩
    · by_cases h20 : 20 < aw
      · have d4 : decide (20 < aw) = true := decide_eq_true h20
        have d5 : decide (aw ≤ 1000) = false := decide_eq_false (fun h => hto ⟨h20, h⟩)
        have HSF := HS
        clear hto HS
        go_wp2_with fail
        refine (HAW.out _).mono ?_
        rintro e w7 ⟨rfl, b7⟩
        have S7 := Lib.hid (HSF.out.next b7)
        obtain ⟨f0, f1, f2, av', aw', g0, g1, _⟩ := S7.out.facts
        have T7 := Lib.hid (S7.out.told av' aw')
        have a0 : w7.cell? ⟨R + 1 + 1, 0, none⟩ = some (.int .i64 av') := g0
        have a1 : w7.cell? ⟨R + 1 + 1, 1, none⟩ = some (.int .i64 aw') := g1
        clear b7 g0 g1 HSF
        go_wp2_with fail
        refine T7.out.mono ?_
        rintro e w8 ⟨rfl, b8⟩
        have HE := Lib.hid (Below.step S7.out.2.2.2.2.2.2.2.2.2.2.2 b8 (Nat.le_refl _))
        clear b8 T7
        go_wp2_with fail
        go_ret
        exact ⟨rfl, HE.out⟩
      · have d4 : decide (20 < aw) = false := decide_eq_false h20
        have HSF := HS
        clear hto HS
        go_wp2_with fail
        refine (HAW.out _).mono ?_
        rintro e w7 ⟨rfl, b7⟩
        have S7 := Lib.hid (HSF.out.next b7)
        obtain ⟨f0, f1, f2, av', aw', g0, g1, _⟩ := S7.out.facts
        have T7 := Lib.hid (S7.out.told av' aw')
        have a0 : w7.cell? ⟨R + 1 + 1, 0, none⟩ = some (.int .i64 av') := g0
        have a1 : w7.cell? ⟨R + 1 + 1, 1, none⟩ = some (.int .i64 aw') := g1
        clear b7 g0 g1 HSF
        go_wp2_with fail
        refine T7.out.mono ?_
        rintro e w8 ⟨rfl, b8⟩
        have HE := Lib.hid (Below.step S7.out.2.2.2.2.2.2.2.2.2.2.2 b8 (Nat.le_refl _))
        clear b8 T7
        go_wp2_with fail
        go_ret
        exact ⟨rfl, HE.out⟩

theorem own : ownKnob Try.prog.godebug = none := by kernel_rfl

set_option maxRecDepth 100000 in
theorem lifted (os : Os) (started : os.Started) (H : Type) (enc : TypeId × Value → H) :
    ReturnsInHanded {} Try.checked os 5 .any (Rows.storeSpoiltSpec.pre6 enc Try.prog Try.f5 Rows.storeSpoiltRow.domain false) (Rows.storeSpoiltSpec.post enc Try.prog Try.f5 false true false false) := by
  refine returnsInHanded_of_change (C := Try.checked) own started (by kernel_rfl) Try.func5
    (ChangeSpec.witness6 (enc := enc) (C := Try.checked) false ⟨#[], #[.int .u8 0, .slice none 0 0, .int .u8 0, .int .i64 0], []⟩ 8 (by kernel_rfl) (by kernel_rfl) (by kernel_rfl) (by kernel_rfl)) ?_
  intro W base args ds gs before hval0 hW hcnd _
  have hval : ∀ (j : Nat) t v, Try.f5.params[j]? = some t → args[j]? = some v → Value.okWide Try.prog W .any base t v := hval0
  have hW' := hW
  obtain ⟨p, q, hA0, hV, rfl, hfz, hnd⟩ := hW
  have hA : DataW.TrodAll enc Try.prog W 0 (fun _ => true) true Try.f5.params.toList args.toList ds p := hA0
  rw [Try.params5] at hA hval
  obtain ⟨v0, vs0, d0, ds0, p0, q0, hargs, rfl, rfl, h0, hr0⟩ := trodAll_cons hA
  obtain ⟨v1, vs1, d1, ds1, p1, q1, rfl, rfl, rfl, h1, hr1⟩ := trodAll_cons hr0
  obtain ⟨v2, vs2, d2, ds2, p2, q2, rfl, rfl, rfl, h2, hr2⟩ := trodAll_cons hr1
  obtain ⟨v3, vs3, d3, ds3, p3, q3, rfl, rfl, rfl, h3, hr3⟩ := trodAll_cons hr2
  obtain ⟨rfl, rfl, rfl⟩ := trodAll_nil hr3
  obtain rfl : args = #[v0, v1, v2, v3] := by cases args; simp_all
  obtain ⟨rfl, rfl⟩ := trodVars_none hV
  obtain ⟨N, rfl, rfl, rfl, w0⟩ := open_int Try.underlying5 (hval 0 5 v0 rfl rfl) h0
  obtain ⟨ll, al, cl, rfl, hs1⟩ := h_arg_bytes (hval 1 39 v1 rfl rfl) h1
  obtain ⟨H8, rfl, rfl, rfl, w3⟩ := open_int Try.underlying5 (hval 2 5 v2 rfl rfl) h2
  obtain ⟨K, rfl, rfl, rfl, w4⟩ := open_int Try.underlying3 (hval 3 3 v3 rfl rfl) h3
  have hN := h_u8_range w0
  have hH := h_u8_range w3
  have hlt := hW'.lt
  refine (walk N H8 K hN.1 hN.2 hH.1 hH.2 ll cl W.heap.size al W hs1 (Nat.le_refl _)).mono fun e W' ⟨he, hb⟩ => ?_
  subst he
  have t1 := Below.trod h_laidOut (by kernel_rfl) (of_decide_eq_true (by kernel_rfl)) h1 hb (fun x hx => hlt x (by simp [hx]))
  exact ⟨_, rfl, ⟨_, _, _, [], _, [], hW', trodAll_mk1 (shut_bool Try.underlying4 _), ⟨_, _, shut_int Try.underlying5 w0, trodAll_mk3 t1 (shut_int Try.underlying5 w3) (shut_int Try.underlying3 w4), rfl⟩, rfl, hb.frame _, fun h => by cases h⟩⟩

theorem over : Rows.storeSpoiltRow.holds Try.pinned (OpenSpec.ofChange Rows.storeSpoiltSpec) :=
  OpenClaim.holds_of_wide 5 Try.f5 rfl rfl rfl rfl rfl rfl rfl ⟨rfl, rfl, rfl, rfl, rfl⟩ rfl rfl rfl rfl rfl (by kernel_rfl) Try.func5 (by kernel_rfl)
    (of_decide_eq_true (by kernel_rfl)) (by unfold Func.isWrapper; first | (rw [if_pos (by decide +kernel)]; kernel_rfl) | (rw [if_neg (by decide +kernel)]; exact ⟨rfl, rfl⟩))
    (fun os started H enc _ => lifted os started H enc)

/-- THE STATEMENT -/
theorem proved : Rows.StoreSpoiltSaid :=
  over
#print axioms proved
end Go.Proofs.Ytglggigndhbpcaa.storeSpoilt
