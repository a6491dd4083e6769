/- The law ArenaDeep's walk on two of its three ways (how % 3 is 0 or 1). No condition else. -/
import Derived.Test.YtcaefdngdmnpmaaSpoil
import Derived.Test.YtcaefdngdmnpmaaOpen4
import Derived.Carry
import Derived.WalkSpells
import Derived.Deep.RegionHeld3
namespace Go.Proofs.Ytcaefdngdmnpmaa.arenaDeep
open Go.ChangeShapes Go.WideShapes Go.ChangeAt Go.RowKit

theorem start (w : World) : SpAt w (w.heap.size + 1) w.heap.size 1 [⟨1, 0, 0, 0⟩] ((w.alloc (.cells #[.int .i64 1, .int .i64 0, .int .i64 0, .int .i64 0] 37)).alloc (.cells #[.slice (some ⟨w.heap.size, 0, none⟩) 1 1] 24)) := by
  refine ⟨heap_second _ _ _, ⟨rfl, .inr ⟨w.heap.size, 1, _, rfl, Nat.le_refl _, (heap_old _ _ (by simp)).trans (heap_new _ _), Nat.le_refl _, by unfold maxLen; omega, rfl, rfl⟩⟩, by omega, ((Below.refl _ _).alloc (Nat.le_refl _) _).alloc (by simp) _⟩
theorem SpAt.alloc {w : World} {A g c : Nat} {M : List Nd} {W : World} (h : SpAt w A g c M W) (o : Obj) : SpAt w A g c M (W.alloc o) :=
  ⟨(heap_old _ _ (lt_of_block h.a)).trans h.a, World.ownsRow.alloc h.own _, h.lA, h.hb.alloc h.hb.size _⟩
theorem SpAt.other {w : World} {A g c : Nat} {M : List Nd} {W : World} (h : SpAt w A g c M W) {b : Nat} (h1 : A ≠ b) (h2 : g ≠ b) (h3 : w.heap.size ≤ b) (i : Nat) (v : Value) : SpAt w A g c M (W.setCell ⟨b, i, none⟩ v) :=
  ⟨(Below.heap_setCell _ _ _ _ h1).trans h.a, NOwn.kept h.own (Only.set W b i v) (.inr (fun e => by simp [Value.ownBlock] at e; omega)), h.lA, h.hb.setCell h3 _⟩

/-- A level that lies in memory. -/
def Lvl (v : Value) (W : World) : Prop := ∃ (k n : Int) (F : Fo) (y : Option Addr) (d : Nat), v = .agg #[.int .i64 k, .int .i64 n, .slice y F.len d] ∧ SlIn W (· < W.heap.size) F y d
theorem Lvl.zero (W : World) : Lvl (.agg #[.int .i64 0, .int .i64 0, .slice none 0 0]) W := ⟨0, 0, .nil, none, 0, rfl, SlIn.none _ _⟩
theorem Lvl.mk {W : World} {k n : Int} {F : Fo} {y : Option Addr} {d lo : Nat} (h : SlIn W (fun b => lo ≤ b ∧ b < W.heap.size) F y d) : Lvl (.agg #[.int .i64 k, .int .i64 n, .slice y F.len d]) W := ⟨k, n, F, y, d, rfl, h.weak (fun _ hb => hb.2)⟩

set_option maxRecDepth 100000 in
set_option maxHeartbeats 4000000 in
theorem walk01 (l1 c1 : Nat) (a1 : Option Addr) (X Y : Int) (w : World) (h1 : U8In w (· < w.heap.size) l1 a1 c1) (hX0 : 0 ≤ X) (hX1 : X ≤ 255) (hY0 : 0 ≤ Y) (hY1 : Y ≤ 255) (h2 : ¬ Y % 3 = 2) :
    Calls Try.prog 6 #[.int .u8 X, .int .u8 Y, .slice a1 l1 c1] w fun e w' => e = .returned (.bool true) ∧ Below w.heap.size w w' := by
  have HM : Hid (∀ W, Below w.heap.size w W → Calls Try.prog 12 #[.slice a1 l1 c1, .int .i64 5, .int .i64 10] W (MadeOk 5 10 W)) := Lib.hid (fun W h => made_any 5 10 (by omega) (by omega) (by omega) (by omega) l1 c1 w.heap.size a1 W (h1.keep' (fun b hb => h.block b hb)) h.size)
  have HS := Lib.hid (start w)
  have h3 : Y % 3 = 0 ∨ Y % 3 = 1 := by omega
  clear h1
  rcases h3 with e | e
  · obtain ⟨m, hm⟩ : ∃ m : Nat, X % 17 = (m : Int) := ⟨(X % 17).toNat, by omega⟩
    have hm1 : m ≤ 1002 := by omega
    have b1 : (Y % 3 == 1) = false := by rw [e]; rfl
    have t1 : (Y.tmod 3 == 1) = false := by rw [Int.tmod_eq_emod_of_nonneg hY0, e]; rfl
    have b2 : (Y % 3 == 2) = false := by rw [e]; rfl
    have t2 : (Y.tmod 3 == 2) = false := by rw [Int.tmod_eq_emod_of_nonneg hY0, e]; rfl
    clear e
    go_enter Try.func6, Try.ntmps6
    go_wp2_with fail
    try rw [hm]
    clear hm
    generalize (w.alloc (.cells #[.int .i64 1, .int .i64 0, .int .i64 0, .int .i64 0] 37)).alloc (.cells #[.slice (some ⟨w.heap.size, 0, none⟩) 1 1] 24) = W0 at HS ⊢
    go_loopw [9] (fun i wr => ∃ (j : Nat) (M : List Nd) (g c : Nat), i = .int .i64 j ∧ j ≤ m ∧ M.length = j + 1 ∧ Hid (SpAt w (w.heap.size + 1) g c M wr)) (fun i _ => m - (intOf i).toNat)
    case atStart => exact ⟨0, _, _, _, rfl, Nat.zero_le _, rfl, HS⟩
    case round =>
      obtain ⟨j, M, g, c, rfl, hj, hM, hR⟩ := hrel
      by_cases hlt : j < m
      · have hlt' : (j : Int) < (m : Int) := by omega
        have hj0 : (0 : Int) ≤ (j : Int) := by omega
        have ez := free_of hR.out.a
        have e0 := cell_at hR.out.a 0
        simp at e0
        have lA := lt_of_block hR.out.a
        have HPRE : Hid (SpAt w (w.heap.size + 1) g c M (wr.alloc (.cells #[.int .i64 2, .int .i64 0, .int .i64 j, .int .i64 0] 37))) := Lib.hid (SpAt.alloc hR.out _)
        obtain ⟨g2, c2, w3, hrun, p1, p2, p3⟩ := sp_push (A := w.heap.size + 1) (w := w) (w1 := wr.alloc (.cells #[.int .i64 2, .int .i64 0, .int .i64 j, .int .i64 0] 37)) (ns := M) (x := some ⟨g, 0, none⟩) (c := c) HPRE.out.own HPRE.out.hb HPRE.out.a (by omega) (by omega) (⟨2, 0, j, 0⟩ : Nd)
        rw [hM] at hrun p1 p3
        have hlM : (M ++ [(⟨2, 0, j, 0⟩ : Nd)]).length = j + 1 + 1 := by rw [List.length_append, hM]; rfl
        simp only [World.size_alloc] at hrun
        have HRUN := Lib.hid hrun
        have HZ := Lib.hid p3
        have HML := Lib.hid hlM
        rw [hM] at e0
        clear hrun p3 hlM hM hR HS HPRE
        go_wp2_with (at_builtin; refine wpList_append_run (by rfl) _ _ _ (by rfl) (by rfl) (by rfl) HRUN.out ?_)
        go_roundw
        case rel => exact ⟨j + 1, _, g2, c2, by go_num, by omega, HML.out, HZ⟩
        case measure => simp [intOf]; omega
      · have hlt' : ¬ (j : Int) < (m : Int) := by omega
        have e0 := cell_at hR.out.a 0
        simp at e0
        have HLA := Lib.hid (lt_of_block hR.out.a)
        have HB := Lib.hid hR.out.hb
        have HT : Hid (∀ (i : Int) (v : Value) (W' : World), Below wr.heap.size wr W' → Lvl v W' → Calls Try.prog 10 #[.agg #[.slice (some ⟨g, 0, none⟩) M.length c], v, .int .i64 i] W' fun e w' => e = .returned (.bool true) ∧ Below W'.heap.size W' w') := Lib.hid (fun i v W' h hs => by
          obtain ⟨k, n, F, y, d, rfl, hs⟩ := hs
          exact told4_any M _ c k n F y d i W'.heap.size W' ((hR.out.tl.later h).mono h.size) hs (Nat.le_refl _) (by omega))
        generalize M.length = L at e0 HT hM
        have HHM := Lib.hid hM
        clear hM hR HS
        go_wp2_with fail
        go_region_held3 (fun w' => Hid (Below wr.heap.size wr w') ∧ w'.cell? ⟨w.heap.size + 1, 0, none⟩ = some (.slice (some ⟨g, 0, none⟩) L c))
          (first | exact ⟨Lib.hid (Below.refl _ _).drew, e0⟩ | (go_split_ands; exact ⟨Lib.hid (Below.step (Hid.out (by assumption)) hbN (Nat.le_refl _)), (bcell (Below.step (Hid.out (by assumption)) hbN (Nat.le_refl _)) _ 0 HLA.out).trans e0⟩))
          (first | (go_at_call 8; go_split_ands; refine (awake4_any _).mono ?_; rintro e wN ⟨rfl, hbN⟩) | (go_at_call 12; go_split_ands; refine (HM.out _ (by exact Below.step HB.out (Hid.out (by assumption)) (Nat.le_refl _))).mono ?_; rintro e wN ⟨k, n, F, y, d, rfl, _, sM, hbN⟩) | (go_at_call 10; go_split_ands; refine (HT.out _ _ _ (Hid.out (by assumption)) (by first | exact Lvl.mk sM | exact Lvl.zero _)).mono ?_; rintro e wN ⟨rfl, hbN⟩))
        all_goals go_split_ands
        all_goals have hEE := Lib.hid (Below.step HB.out (Hid.out (by assumption : Hid (Below wr.heap.size wr wN))) (Nat.le_refl _))
        all_goals go_wp2_with fail
        all_goals go_ret
        all_goals exact ⟨rfl, hEE.out⟩
  · obtain ⟨m, hm⟩ : ∃ m : Nat, X % 17 = (m : Int) := ⟨(X % 17).toNat, by omega⟩
    have hm1 : m ≤ 1002 := by omega
    have b1 : (Y % 3 == 1) = true := by rw [e]; rfl
    have t1 : (Y.tmod 3 == 1) = true := by rw [Int.tmod_eq_emod_of_nonneg hY0, e]; rfl
    have b2 : (Y % 3 == 2) = false := by rw [e]; rfl
    have t2 : (Y.tmod 3 == 2) = false := by rw [Int.tmod_eq_emod_of_nonneg hY0, e]; rfl
    clear e
    go_enter Try.func6, Try.ntmps6
    go_wp2_with fail
    try rw [hm]
    clear hm
    generalize (w.alloc (.cells #[.int .i64 1, .int .i64 0, .int .i64 0, .int .i64 0] 37)).alloc (.cells #[.slice (some ⟨w.heap.size, 0, none⟩) 1 1] 24) = W0 at HS ⊢
    go_loopw [9] (fun i wr => ∃ (j : Nat) (M : List Nd) (g c : Nat), i = .int .i64 j ∧ j ≤ m ∧ M.length = j + 1 ∧ Hid (SpAt w (w.heap.size + 1) g c M wr)) (fun i _ => m - (intOf i).toNat)
    case atStart => exact ⟨0, _, _, _, rfl, Nat.zero_le _, rfl, HS⟩
    case round =>
      obtain ⟨j, M, g, c, rfl, hj, hM, hR⟩ := hrel
      by_cases hlt : j < m
      · have hlt' : (j : Int) < (m : Int) := by omega
        have hj0 : (0 : Int) ≤ (j : Int) := by omega
        have ez := free_of hR.out.a
        have e0 := cell_at hR.out.a 0
        simp at e0
        have lA := lt_of_block hR.out.a
        have HPRE : Hid (SpAt w (w.heap.size + 1) g c M (wr.alloc (.cells #[.int .i64 3, .int .i64 0, .int .i64 j, .int .i64 j] 37))) := Lib.hid (SpAt.alloc hR.out _)
        obtain ⟨g2, c2, w3, hrun, p1, p2, p3⟩ := sp_push (A := w.heap.size + 1) (w := w) (w1 := wr.alloc (.cells #[.int .i64 3, .int .i64 0, .int .i64 j, .int .i64 j] 37)) (ns := M) (x := some ⟨g, 0, none⟩) (c := c) HPRE.out.own HPRE.out.hb HPRE.out.a (by omega) (by omega) (⟨3, 0, j, j⟩ : Nd)
        rw [hM] at hrun p1 p3
        have hlM : (M ++ [(⟨3, 0, j, j⟩ : Nd)]).length = j + 1 + 1 := by rw [List.length_append, hM]; rfl
        simp only [World.size_alloc] at hrun
        have HRUN := Lib.hid hrun
        have HZ := Lib.hid p3
        have HML := Lib.hid hlM
        rw [hM] at e0
        clear hrun p3 hlM hM hR HS HPRE
        go_wp2_with (at_builtin; refine wpList_append_run (by rfl) _ _ _ (by rfl) (by rfl) (by rfl) HRUN.out ?_)
        go_roundw
        case rel => exact ⟨j + 1, _, g2, c2, by go_num, by omega, HML.out, HZ⟩
        case measure => simp [intOf]; omega
      · have hlt' : ¬ (j : Int) < (m : Int) := by omega
        have e0 := cell_at hR.out.a 0
        simp at e0
        have HLA := Lib.hid (lt_of_block hR.out.a)
        have HB := Lib.hid hR.out.hb
        have HT : Hid (∀ (i : Int) (v : Value) (W' : World), Below wr.heap.size wr W' → Lvl v W' → Calls Try.prog 10 #[.agg #[.slice (some ⟨g, 0, none⟩) M.length c], v, .int .i64 i] W' fun e w' => e = .returned (.bool true) ∧ Below W'.heap.size W' w') := Lib.hid (fun i v W' h hs => by
          obtain ⟨k, n, F, y, d, rfl, hs⟩ := hs
          exact told4_any M _ c k n F y d i W'.heap.size W' ((hR.out.tl.later h).mono h.size) hs (Nat.le_refl _) (by omega))
        generalize M.length = L at e0 HT hM
        have HHM := Lib.hid hM
        clear hM hR HS
        go_wp2_with fail
        go_region_held3 (fun w' => Hid (Below wr.heap.size wr w') ∧ w'.cell? ⟨w.heap.size + 1, 0, none⟩ = some (.slice (some ⟨g, 0, none⟩) L c))
          (first | exact ⟨Lib.hid (Below.refl _ _).drew, e0⟩ | (go_split_ands; exact ⟨Lib.hid (Below.step (Hid.out (by assumption)) hbN (Nat.le_refl _)), (bcell (Below.step (Hid.out (by assumption)) hbN (Nat.le_refl _)) _ 0 HLA.out).trans e0⟩))
          (first | (go_at_call 8; go_split_ands; refine (awake4_any _).mono ?_; rintro e wN ⟨rfl, hbN⟩) | (go_at_call 12; go_split_ands; refine (HM.out _ (by exact Below.step HB.out (Hid.out (by assumption)) (Nat.le_refl _))).mono ?_; rintro e wN ⟨k, n, F, y, d, rfl, _, sM, hbN⟩) | (go_at_call 10; go_split_ands; refine (HT.out _ _ _ (Hid.out (by assumption)) (by first | exact Lvl.mk sM | exact Lvl.zero _)).mono ?_; rintro e wN ⟨rfl, hbN⟩))
        all_goals go_split_ands
        all_goals have hEE := Lib.hid (Below.step HB.out (Hid.out (by assumption : Hid (Below wr.heap.size wr wN))) (Nat.le_refl _))
        all_goals go_wp2_with fail
        all_goals go_ret
        all_goals exact ⟨rfl, hEE.out⟩
end Go.Proofs.Ytcaefdngdmnpmaa.arenaDeep
