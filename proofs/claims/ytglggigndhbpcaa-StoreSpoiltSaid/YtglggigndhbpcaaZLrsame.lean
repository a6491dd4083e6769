/- The contract of the document's comparison of two stores that are the same. Condition: both lie in memory and hold the same. -/
import Derived.Test.YtglggigndhbpcaaZLrows
import Derived.Test.YtglggigndhbpcaaZHs
import Derived.Test.YtglggigndhbpcaaZHasks
import Derived.Deep.RegionLaw
import Derived.Deep.DeepCutAuto
import Derived.Carry
namespace Go.Proofs.Ytglggigndhbpcaa
open Go.RowKit

/-- The two clauses that are compared lie in variables of their own. -/
def SmSt (W0 : World) (X Y : Nat) (fr : List At) (tv tw : Int) (a b : Option Addr) (c d : Nat) (W : World) : Prop :=
  W.heap[X]? = some (.cells #[.slice a fr.length c, .int .i64 tv, .int .i64 tw] 35 (0, 0)) ∧ W.heap[Y]? = some (.cells #[.slice b fr.length d, .int .i64 tv, .int .i64 tw] 35 (0, 0)) ∧ Below W0.heap.size W0 W
theorem sm_one {W : World} {fr : List At} {tv tw : Int} {a b : Option Addr} {c d : Nat} : SmSt W W.heap.size (W.heap.size + 1) fr tv tw a b c d ((W.alloc (.cells #[.slice a fr.length c, .int .i64 tv, .int .i64 tw] 35)).alloc (.cells #[.slice b fr.length d, .int .i64 tv, .int .i64 tw] 35)).drew := by
  refine ⟨(heap_old _ _ (by simp)).trans (heap_new W _), ?_, (((Below.refl _ _).alloc (Nat.le_refl _) _).alloc (by simp) _).drew⟩
  have := heap_new (W.alloc (.cells #[.slice a fr.length c, .int .i64 tv, .int .i64 tw] 35)) (.cells #[.slice b fr.length d, .int .i64 tv, .int .i64 tw] 35)
  rwa [World.size_alloc] at this
theorem sm_two {W : World} {fr : List At} {tv tw : Int} {a b : Option Addr} {c d : Nat} : SmSt W (W.heap.size + 1) W.heap.size fr tv tw a b c d ((W.alloc (.cells #[.slice b fr.length d, .int .i64 tv, .int .i64 tw] 35)).alloc (.cells #[.slice a fr.length c, .int .i64 tv, .int .i64 tw] 35)).drew := by
  obtain ⟨h1, h2, h3⟩ := @sm_one W fr tv tw b a d c
  exact ⟨h2, h1, h3⟩
set_option maxRecDepth 100000 in
set_option maxHeartbeats 8000000 in
theorem r11Same_yes (vars : Int) (l : List Cl) (m : List Int) (a am b bm : Option Addr) (ca cam cb cbm B : Nat) (w : World) (h1 : ClsIn w (· < B) l a ca) (h2 : ClsIn w (· < B) l b cb) (k1 : IntsIn w (· < B) m am cam) (k2 : IntsIn w (· < B) m bm cbm) (hB : B ≤ w.heap.size) :
    Calls Try.prog 10 #[.agg #[.int .i64 vars, .slice a l.length ca, .slice am m.length cam], .agg #[.int .i64 vars, .slice b l.length cb, .slice bm m.length cbm]] w fun e w' => e = .returned (.bool true) ∧ Below w.heap.size w w' := by
  have hlen := h1.len
  have hlm := k1.len
  obtain ⟨W0, hW0⟩ : ∃ W, W = (w.alloc (.cells #[.int .i64 vars, .slice a l.length ca, .slice am m.length cam] 25)).alloc (.cells #[.int .i64 vars, .slice b l.length cb, .slice bm m.length cbm] 25) := ⟨_, rfl⟩
  have B0 : Below w.heap.size w W0 := by rw [hW0]; exact ((Below.refl _ _).alloc (Nat.le_refl _) _).alloc (by simp) _
  have hs0 : W0.heap.size = w.heap.size + 1 + 1 := by rw [hW0]; simp
  have q0 : W0.heap[w.heap.size]? = some (.cells #[.int .i64 vars, .slice a l.length ca, .slice am m.length cam] 25 (0, 0)) := by
    rw [hW0]; exact (heap_old _ _ (by simp)).trans (heap_new w _)
  have q1 : W0.heap[w.heap.size + 1]? = some (.cells #[.int .i64 vars, .slice b l.length cb, .slice bm m.length cbm] 25 (0, 0)) := by
    rw [hW0]
    have := heap_new (w.alloc (.cells #[.int .i64 vars, .slice a l.length ca, .slice am m.length cam] 25)) (.cells #[.int .i64 vars, .slice b l.length cb, .slice bm m.length cbm] 25)
    rwa [World.size_alloc] at this
  have CI := Lib.hid (ints8_any m m am bm cam cbm B W0 (k1.below (B0.mono hB)) (k2.below (B0.mono hB)) (Nat.le_trans hB B0.size))
  rw [show eqI m m = true from decide_eq_true rfl] at CI
  have H1 := Lib.hid (h1.below (B0.mono hB))
  have H2 := Lib.hid (h2.below (B0.mono hB))
  have HBB : Hid (B ≤ W0.heap.size) := Lib.hid (Nat.le_trans hB B0.size)
  have HS0 := Lib.hid hs0
  have Q0 := Lib.hid q0
  have Q1 := Lib.hid q1
  have HB0 := Lib.hid B0
  have d0 : (vars != vars) = false := by simp
  have d1 : ((l.length : Int) != (l.length : Int)) = false := by simp
  clear h1 h2 k1 k2 hB q0 q1 hs0 B0
  rw [hW0] at CI
  go_enter Try.func10, Try.ntmps10
  go_wp2_with fail
  refine CI.out.mono ?_
  rintro e w1 ⟨rfl, b1⟩
  rw [← hW0] at b1
  have B1 := Lib.hid b1
  have x0 := cell_at ((b1.block w.heap.size (by have := HS0.out; omega)).trans Q0.out) 1
  have x1 := cell_at ((b1.block (w.heap.size + 1) (by have := HS0.out; omega)).trans Q1.out) 1
  simp at x0 x1
  clear b1 CI hW0
  go_wp2_with fail
  clear x0 x1
  go_loopw [5] (fun iv wr => ∃ k : Nat, iv = .int .i64 k ∧ k ≤ l.length ∧ Hid (Below W0.heap.size W0 wr)) (fun iv _ => l.length - (intOf iv).toNat)
  case atStart => exact ⟨0, rfl, Nat.zero_le _, B1⟩
  case round =>
    obtain ⟨k, rfl, hk, hS⟩ := hrel
    have x0 := cell_at ((hS.out.block w.heap.size (by have := HS0.out; omega)).trans Q0.out) 1
    have x1 := cell_at ((hS.out.block (w.heap.size + 1) (by have := HS0.out; omega)).trans Q1.out) 1
    simp at x0 x1
    by_cases hlt : k < l.length
    · have hlt' : (k : Int) < (l.length : Int) := by omega
      have hk0 : (0 : Int) ≤ (k : Int) := by omega
      obtain ⟨g, o, fr, tv, tw, a', c', rfl, hgB, hget, e0, hat, e1, e2⟩ := (H1.out.below (hS.out.mono HBB.out)).at (k := k) hlt
      obtain ⟨g', o', fr', tv', tw', b', d', rfl, hgB', hget', e0', hat', e1', e2'⟩ := (H2.out.below (hS.out.mono HBB.out)).at (k := k) hlt
      rw [hget] at hget'
      cases hget'
      have HA := Lib.hid hat
      have HA' := Lib.hid hat'
      clear hat hat' hget
      have hz := hS.out.size
      have hs := HS0.out
      have hbb := HBB.out
      have BZ1 : ∀ p, Below wr.heap.size wr (wr.alloc p) := fun p => (Below.refl _ _).alloc (Nat.le_refl _) _
      have BZ2 : ∀ p q, Below wr.heap.size wr ((wr.alloc p).alloc q) := fun p q => (BZ1 p).alloc (BZ1 p).size _
      have n1 := fun p => (bcell (BZ1 p) w.heap.size _ (by omega)).trans x0
      have n2 := fun p => (bcell (BZ1 p) (w.heap.size + 1) _ (by omega)).trans x1
      have n3 := fun p => (bcell (BZ1 p) g _ (by omega)).trans e0
      have n4 := fun p => (bcell (BZ1 p) g _ (by omega)).trans e1
      have n5 := fun p => (bcell (BZ1 p) g _ (by omega)).trans e2
      have n6 := fun p => (bcell (BZ1 p) g' _ (by omega)).trans e0'
      have n7 := fun p => (bcell (BZ1 p) g' _ (by omega)).trans e1'
      have n8 := fun p => (bcell (BZ1 p) g' _ (by omega)).trans e2'
      have n9 := fun p q => (bcell (BZ2 p q) w.heap.size _ (by omega)).trans x0
      have n10 := fun p q => (bcell (BZ2 p q) (w.heap.size + 1) _ (by omega)).trans x1
      have n11 := fun p q => (bcell (BZ2 p q) g _ (by omega)).trans e0
      have n12 := fun p q => (bcell (BZ2 p q) g _ (by omega)).trans e1
      have n13 := fun p q => (bcell (BZ2 p q) g _ (by omega)).trans e2
      have n14 := fun p q => (bcell (BZ2 p q) g' _ (by omega)).trans e0'
      have n15 := fun p q => (bcell (BZ2 p q) g' _ (by omega)).trans e1'
      have n16 := fun p q => (bcell (BZ2 p q) g' _ (by omega)).trans e2'
      clear BZ1 BZ2 hz hs hbb
      go_upto_region 6 with fail
      go_cut [6, 7] from 38 to 47 (fun s6 s7 wx => ∃ X Y, s6 = .pointer (some ⟨X, 0, none⟩) ∧ s7 = .pointer (some ⟨Y, 0, none⟩) ∧ Hid (SmSt wr X Y fr tv tw a' b' c' d' wx))
      case first =>
        go_region
        all_goals go_wp2_with fail
        all_goals go_meet
        all_goals first
          | exact ⟨_, _, rfl, rfl, Lib.hid sm_one⟩
          | exact ⟨_, _, rfl, rfl, Lib.hid sm_two⟩
      case rest =>
        obtain ⟨X, Y, rfl, rfl, hX⟩ := hcut
        clear n1 n2 n3 n4 n5 n6 n7 n8 n9 n10 n11 n12 n13 n14 n15 n16 e0 e1 e2 e0' e1' e2' x0 x1
        have HW : Hid (Below W0.heap.size W0 wc) := Lib.hid (hS.out.trans (hX.out.2.2.mono hS.out.size))
        have HA2 : Hid (AtsIn wc (· < B) fr a' c') := Lib.hid (HA.out.below (hX.out.2.2.mono (Nat.le_trans HBB.out hS.out.size)))
        have HA3 : Hid (AtsIn wc (· < B) fr b' d') := Lib.hid (HA'.out.below (hX.out.2.2.mono (Nat.le_trans HBB.out hS.out.size)))
        have y0 := cell_at hX.out.1 0
        have y1 := cell_at hX.out.1 1
        have y2 := cell_at hX.out.1 2
        have z0 := cell_at hX.out.2.1 0
        have z1 := cell_at hX.out.2.1 1
        have z2 := cell_at hX.out.2.1 2
        simp at y0 y1 y2 z0 z1 z2
        have d2 : ((fr.length : Int) != (fr.length : Int)) = false := by simp
        have hfl := HA2.out.len
        clear HA HA'
        go_wp2_with fail
        clear y0 y1 y2 z0 z1 z2
        obtain ⟨WC, hWC⟩ : ∃ W, W = wc := ⟨_, rfl⟩
        rw [← hWC] at hX HW HA2 HA3 ⊢
        clear hWC
        go_loopw [8] (fun jv wq => ∃ j : Nat, jv = .int .i64 j ∧ j ≤ fr.length ∧ Hid (Below WC.heap.size WC wq)) (fun jv _ => fr.length - (intOf jv).toNat)
        case atStart => exact ⟨0, rfl, Nat.zero_le _, Lib.hid (Below.refl _ _)⟩
        case round =>
          obtain ⟨j, rfl, hj, hq⟩ := hrel
          have hxb := (hq.out.block X (lt_of_block hX.out.1)).trans hX.out.1
          have hyb := (hq.out.block Y (lt_of_block hX.out.2.1)).trans hX.out.2.1
          have y0 := cell_at hxb 0
          have z0 := cell_at hyb 0
          simp at y0 z0
          clear hxb hyb
          by_cases hjl : j < fr.length
          · have hjl' : (j : Int) < (fr.length : Int) := by omega
            have hj0 : (0 : Int) ≤ (j : Int) := by omega
            have hBW : B ≤ WC.heap.size := Nat.le_trans HBB.out HW.out.size
            obtain ⟨p, r, rfl, hpB, hc1⟩ := HA2.out.some (by omega)
            obtain ⟨p', r', rfl, hpB', hc2⟩ := HA3.out.some (by omega)
            have f0 := (bcell hq.out p _ (Nat.lt_of_lt_of_le hpB hBW)).trans (hc1 j hjl).1
            have f1 := (bcell hq.out p _ (Nat.lt_of_lt_of_le hpB hBW)).trans (hc1 j hjl).2
            have f2 := (bcell hq.out p' _ (Nat.lt_of_lt_of_le hpB' hBW)).trans (hc2 j hjl).1
            have f3 := (bcell hq.out p' _ (Nat.lt_of_lt_of_le hpB' hBW)).trans (hc2 j hjl).2
            have HBN : Hid (∀ n, Below WC.heap.size WC (wr.drewN n)) := Lib.hid (fun n => Below.draws hq.out n)
            clear hc1 hc2 hBW
            generalize (fr.getD j at0).1 = s at f0 f2
            generalize (fr.getD j at0).2 = t at f1 f3
            go_wp2_with fail
            go_quiet (fail)
            go_wp2_with fail
            go_roundw
            case rel => exact ⟨j + 1, by go_num, by omega, Lib.hid (HBN.out _)⟩
            case measure => simp [intOf]; omega
          · obtain rfl : j = fr.length := by omega
            go_wp2_with fail
            go_roundw
            case rel => exact ⟨k + 1, by go_num, by omega, Lib.hid (HW.out.trans (hq.out.mono HW.out.size))⟩
            case measure => simp [intOf]; omega
    · obtain rfl : k = l.length := by omega
      go_wp2_with fail
      go_ret
      exact ⟨rfl, Below.step HB0.out hS.out (Nat.le_refl _)⟩
end Go.Proofs.Ytglggigndhbpcaa
