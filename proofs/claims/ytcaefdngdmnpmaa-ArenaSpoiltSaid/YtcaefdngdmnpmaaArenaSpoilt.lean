/- For every list of lists of bytes, two bytes and a number the law ArenaSpoilt returns true: of an arena that was spoilt by hand the program tells what the document's own answer tells. No condition. -/
import Derived.Test.YtcaefdngdmnpmaaSpoil
import Derived.Test.YtcaefdngdmnpmaaOpen4
import Derived.Carry
import Derived.WalkSpells
import Derived.BigQuiet
import Derived.Deep.RegionLaw
import Derived.Deep.RegionHeld3
namespace Go.Proofs.Ytcaefdngdmnpmaa.arenaSpoilt
open Go.ChangeShapes Go.WideShapes Go.ChangeAt Go.RowKit

theorem own : ownKnob Try.prog.godebug = none := by kernel_rfl

set_option maxRecDepth 100000 in
set_option maxHeartbeats 4000000 in
theorem walk (l1 c1 : Nat) (a1 : Option Addr) (X H n : Int) (w : World) (h1 : RowsIn w (· < w.heap.size) l1 a1 c1) (hX0 : 0 ≤ X) (hX1 : X ≤ 255) (hH0 : 0 ≤ H) (hH1 : H ≤ 255) :
    Calls Try.prog 5 #[.slice a1 l1 c1, .int .u8 X, .int .u8 H, .int .i64 n] w fun e w' => e = .returned (.bool true) ∧ Below w.heap.size w w' := by
  have HA := Lib.hid (mArena_any l1 c1 w.heap.size a1 w h1 (Nat.le_refl _))
  clear h1
  go_enter Try.func5, Try.ntmps5
  go_wp2_with fail
  refine HA.out.mono ?_
  rintro e w1 ⟨ns, x, c, rfl, hl, o1, b1⟩
  obtain ⟨g, c', w2, hrun, p1, p2, p3⟩ := sp_push (A := w1.heap.size) (w := w) (w1 := w1.alloc (.cells #[.slice x ns.length c] 24)) (World.ownsRow.alloc o1 _) (b1.alloc b1.size _) (heap_new _ _) b1.size (by omega) ⟨5, 4, 0, 0⟩
  have HRUN := Lib.hid hrun
  have HSP := Lib.hid p3
  clear b1 o1 p3 hrun
  simp only [World.size_alloc] at HRUN
  obtain ⟨q, hq⟩ : ∃ q : Nat, X % ((ns.length + 1 : Nat) : Int) = (q : Int) := ⟨(X % ((ns.length + 1 : Nat) : Int)).toNat, by rw [Int.toNat_of_nonneg (Int.emod_nonneg _ (by omega))]⟩
  have hq2 : q < ns.length + 1 := by have := Int.emod_lt_of_pos X (show (0 : Int) < ((ns.length + 1 : Nat) : Int) by omega); omega
  have hq1 : (q : Int) < ((ns.length + 1 : Nat) : Int) := by omega
  have hq0 : (0 : Int) ≤ (q : Int) := by omega
  have hq3 : X.tmod ((ns.length + 1 : Nat) : Int) = (q : Int) := by rw [Int.tmod_eq_emod_of_nonneg hX0]; exact hq
  have hq4 : X.tmod ((ns.length : Int) + 1) = (q : Int) := by rw [← hq3]; rfl
  have hq5 : X % ((ns.length : Int) + 1) = (q : Int) := by rw [← hq]; rfl
  have hnz : ¬ ((ns.length + 1 : Nat) : Int) = 0 := by omega
  have hnz' : ¬ ((ns.length : Int) + 1) = 0 := by omega
  have e0 := cell_at HSP.out.a 0
  simp at e0
  clear hq
  generalize hW : w2.setCell { block := w1.heap.size, off := 0 } (Value.slice (some { block := g, off := 0 }) (ns.length + 1) c') = W at HSP e0
  go_wp2_with (at_builtin; refine wpList_append_run (by rfl) _ _ _ (by rfl) (by rfl) (by rfl) HRUN.out ?_)
  go_wp2_with fail
  clear hW
  obtain ⟨y, hy⟩ : ∃ y, (ns ++ [(⟨5, 4, 0, 0⟩ : Nd)])[q]? = some y := ⟨_, List.getElem?_eq_getElem (by simpa using hq2)⟩
  have HML : Hid ((ns ++ [(⟨5, 4, 0, 0⟩ : Nd)]).length = ns.length + 1) := Lib.hid (by simp)
  have HLA := Lib.hid (lt_of_block HSP.out.a)
  have HY := Lib.hid hy
  clear HRUN p1 p2 hy HA
  go_quiet (fail)
  have HV := Lib.hid (HSP.out.drew nq)
  generalize W.drewN nq = V at HV ⊢
  clear HSP e0
  obtain ⟨cur, hcg⟩ := HV.out.tl.r
  have gz := free_of hcg
  have e0 := cell_at HV.out.a 0
  simp at e0
  have ez := free_of HV.out.a
  obtain ⟨y0, y1, y2, y3⟩ := HV.out.tl.n q y HY.out
  simp only [Nat.zero_add] at y0 y1 y2 y3
  generalize hM : ns ++ [(⟨5, 4, 0, 0⟩ : Nd)] = M at HV HML HY
  have HL : Hid (ns.length = M.length - 1 ∧ 1 ≤ M.length) := Lib.hid ⟨by have := HML.out; omega, by have := HML.out; omega⟩
  have HLG := Lib.hid (lt_of_block hcg)
  clear hM hcg
  have h6 : H % 6 = 0 ∨ H % 6 = 1 ∨ H % 6 = 2 ∨ H % 6 = 3 ∨ H % 6 = 4 ∨ H % 6 = 5 := by omega
  rcases h6 with e | e | e | e | e | e
  · have b0 : (H % 6 == 0) = true := by rw [e]; rfl
    have HZ : Hid (TlAt w w1.heap.size g c' (M.set q (turn 0 n y)) (V.setCell ⟨g, q * 4, none⟩ (.int .i64 n))) := Lib.hid (HV.out.tl.turn HY.out 0 (by omega) n)
    have HL2 : Hid (1 ≤ (M.set q (turn 0 n y)).length ∧ (M.set q (turn 0 n y)).length ≤ 900) := Lib.hid (by rw [List.length_set]; have := HML.out; have := HL.out; omega)
    clear e
    go_wp2_with fail
    generalize V.setCell ⟨g, q * 4, none⟩ (.int .i64 n) = Z at HZ ⊢
    generalize M.set q (turn 0 n y) = M' at HZ HL2
    clear b0 e0 ez y0 y1 y2 y3 gz HV HML HY HL hq1 hq2 hq3 hq4 hq5 hnz hnz' HLA
    obtain ⟨l1', l2'⟩ := HL2.out
    have e1 := cell_at HZ.out.a 0
    simp at e1
    have LZ := Lib.hid (lt_of_block HZ.out.a)
    have HT : Hid (∀ (i : Int) (W' : World), Below Z.heap.size Z W' → Calls Try.prog 10 #[.agg #[.slice (some ⟨g, 0, none⟩) M'.length c'], .agg #[.int .i64 1, .int .i64 0, .slice none 0 0], .int .i64 i] W' fun e w' => e = .returned (.bool true) ∧ Below W'.heap.size W' w') := Lib.hid (fun i W' h => told4_any M' _ c' 1 0 .nil none 0 i Z.heap.size W' (HZ.out.later h) (SlIn.none _ _) h.size (by omega))
    have HB := Lib.hid HZ.out.hb
    clear HZ HL2 hX1 hH0 hH1
    generalize M'.length = L at l1' l2' e1 HT ⊢
    have m0 : ¬ (L : Int) = 0 := by omega
    have m1 : ¬ L = 0 := by omega
    have m2 : (1 : Int) ≤ (L : Int) := by omega
    go_region_held3 (fun w' => Hid (Below Z.heap.size Z w') ∧ w'.cell? ⟨w1.heap.size, 0, none⟩ = some (.slice (some ⟨g, 0, none⟩) L c'))
      (first | exact ⟨Lib.hid (Below.refl _ _).drew, e1⟩ | (go_split_ands; exact ⟨Lib.hid (Below.step (Hid.out (by assumption)) hbN (Nat.le_refl _)), (bcell (Below.step (Hid.out (by assumption)) hbN (Nat.le_refl _)) _ 0 LZ.out).trans e1⟩))
      (first | (go_at_call 8; go_split_ands; refine (awake4_any _).mono ?_; rintro e wN ⟨rfl, hbN⟩) | (go_at_call 10; go_split_ands; refine (HT.out _ _ (Hid.out (by assumption))).mono ?_; rintro e wN ⟨rfl, hbN⟩))
    all_goals go_split_ands
    all_goals have hEE := Lib.hid (Below.step HB.out (Hid.out (by assumption : Hid (Below Z.heap.size Z wN))) (Nat.le_refl _))
    all_goals go_wp2_with fail
    all_goals go_ret
    all_goals exact ⟨rfl, hEE.out⟩
  · have b0 : (H % 6 == 0) = false := by rw [e]; rfl
    have b1 : (H % 6 == 1) = true := by rw [e]; rfl
    have HZ : Hid (TlAt w w1.heap.size g c' (M.set q (turn 1 n y)) (V.setCell ⟨g, q * 4 + 1, none⟩ (.int .i64 n))) := Lib.hid (HV.out.tl.turn HY.out 1 (by omega) n)
    have HL2 : Hid (1 ≤ (M.set q (turn 1 n y)).length ∧ (M.set q (turn 1 n y)).length ≤ 900) := Lib.hid (by rw [List.length_set]; have := HML.out; have := HL.out; omega)
    clear e
    go_wp2_with fail
    generalize V.setCell ⟨g, q * 4 + 1, none⟩ (.int .i64 n) = Z at HZ ⊢
    generalize M.set q (turn 1 n y) = M' at HZ HL2
    clear b0 b1 e0 ez y0 y1 y2 y3 gz HV HML HY HL hq1 hq2 hq3 hq4 hq5 hnz hnz' HLA
    obtain ⟨l1', l2'⟩ := HL2.out
    have e1 := cell_at HZ.out.a 0
    simp at e1
    have LZ := Lib.hid (lt_of_block HZ.out.a)
    have HT : Hid (∀ (i : Int) (W' : World), Below Z.heap.size Z W' → Calls Try.prog 10 #[.agg #[.slice (some ⟨g, 0, none⟩) M'.length c'], .agg #[.int .i64 1, .int .i64 0, .slice none 0 0], .int .i64 i] W' fun e w' => e = .returned (.bool true) ∧ Below W'.heap.size W' w') := Lib.hid (fun i W' h => told4_any M' _ c' 1 0 .nil none 0 i Z.heap.size W' (HZ.out.later h) (SlIn.none _ _) h.size (by omega))
    have HB := Lib.hid HZ.out.hb
    clear HZ HL2 hX1 hH0 hH1
    generalize M'.length = L at l1' l2' e1 HT ⊢
    have m0 : ¬ (L : Int) = 0 := by omega
    have m1 : ¬ L = 0 := by omega
    have m2 : (1 : Int) ≤ (L : Int) := by omega
    go_region_held3 (fun w' => Hid (Below Z.heap.size Z w') ∧ w'.cell? ⟨w1.heap.size, 0, none⟩ = some (.slice (some ⟨g, 0, none⟩) L c'))
      (first | exact ⟨Lib.hid (Below.refl _ _).drew, e1⟩ | (go_split_ands; exact ⟨Lib.hid (Below.step (Hid.out (by assumption)) hbN (Nat.le_refl _)), (bcell (Below.step (Hid.out (by assumption)) hbN (Nat.le_refl _)) _ 0 LZ.out).trans e1⟩))
      (first | (go_at_call 8; go_split_ands; refine (awake4_any _).mono ?_; rintro e wN ⟨rfl, hbN⟩) | (go_at_call 10; go_split_ands; refine (HT.out _ _ (Hid.out (by assumption))).mono ?_; rintro e wN ⟨rfl, hbN⟩))
    all_goals go_split_ands
    all_goals have hEE := Lib.hid (Below.step HB.out (Hid.out (by assumption : Hid (Below Z.heap.size Z wN))) (Nat.le_refl _))
    all_goals go_wp2_with fail
    all_goals go_ret
    all_goals exact ⟨rfl, hEE.out⟩
  · have b0 : (H % 6 == 0) = false := by rw [e]; rfl
    have b1 : (H % 6 == 1) = false := by rw [e]; rfl
    have b2 : (H % 6 == 2) = true := by rw [e]; rfl
    have HZ : Hid (TlAt w w1.heap.size g c' (M.set q (turn 2 n y)) (V.setCell ⟨g, q * 4 + 2, none⟩ (.int .i64 n))) := Lib.hid (HV.out.tl.turn HY.out 2 (by omega) n)
    have HL2 : Hid (1 ≤ (M.set q (turn 2 n y)).length ∧ (M.set q (turn 2 n y)).length ≤ 900) := Lib.hid (by rw [List.length_set]; have := HML.out; have := HL.out; omega)
    clear e
    go_wp2_with fail
    generalize V.setCell ⟨g, q * 4 + 2, none⟩ (.int .i64 n) = Z at HZ ⊢
    generalize M.set q (turn 2 n y) = M' at HZ HL2
    clear b0 b1 b2 e0 ez y0 y1 y2 y3 gz HV HML HY HL hq1 hq2 hq3 hq4 hq5 hnz hnz' HLA
    obtain ⟨l1', l2'⟩ := HL2.out
    have e1 := cell_at HZ.out.a 0
    simp at e1
    have LZ := Lib.hid (lt_of_block HZ.out.a)
    have HT : Hid (∀ (i : Int) (W' : World), Below Z.heap.size Z W' → Calls Try.prog 10 #[.agg #[.slice (some ⟨g, 0, none⟩) M'.length c'], .agg #[.int .i64 1, .int .i64 0, .slice none 0 0], .int .i64 i] W' fun e w' => e = .returned (.bool true) ∧ Below W'.heap.size W' w') := Lib.hid (fun i W' h => told4_any M' _ c' 1 0 .nil none 0 i Z.heap.size W' (HZ.out.later h) (SlIn.none _ _) h.size (by omega))
    have HB := Lib.hid HZ.out.hb
    clear HZ HL2 hX1 hH0 hH1
    generalize M'.length = L at l1' l2' e1 HT ⊢
    have m0 : ¬ (L : Int) = 0 := by omega
    have m1 : ¬ L = 0 := by omega
    have m2 : (1 : Int) ≤ (L : Int) := by omega
    go_region_held3 (fun w' => Hid (Below Z.heap.size Z w') ∧ w'.cell? ⟨w1.heap.size, 0, none⟩ = some (.slice (some ⟨g, 0, none⟩) L c'))
      (first | exact ⟨Lib.hid (Below.refl _ _).drew, e1⟩ | (go_split_ands; exact ⟨Lib.hid (Below.step (Hid.out (by assumption)) hbN (Nat.le_refl _)), (bcell (Below.step (Hid.out (by assumption)) hbN (Nat.le_refl _)) _ 0 LZ.out).trans e1⟩))
      (first | (go_at_call 8; go_split_ands; refine (awake4_any _).mono ?_; rintro e wN ⟨rfl, hbN⟩) | (go_at_call 10; go_split_ands; refine (HT.out _ _ (Hid.out (by assumption))).mono ?_; rintro e wN ⟨rfl, hbN⟩))
    all_goals go_split_ands
    all_goals have hEE := Lib.hid (Below.step HB.out (Hid.out (by assumption : Hid (Below Z.heap.size Z wN))) (Nat.le_refl _))
    all_goals go_wp2_with fail
    all_goals go_ret
    all_goals exact ⟨rfl, hEE.out⟩
  · have b0 : (H % 6 == 0) = false := by rw [e]; rfl
    have b1 : (H % 6 == 1) = false := by rw [e]; rfl
    have b2 : (H % 6 == 2) = false := by rw [e]; rfl
    have b3 : (H % 6 == 3) = true := by rw [e]; rfl
    have HZ : Hid (TlAt w w1.heap.size g c' (M.set q (turn 3 n y)) (V.setCell ⟨g, q * 4 + 3, none⟩ (.int .i64 n))) := Lib.hid (HV.out.tl.turn HY.out 3 (by omega) n)
    have HL2 : Hid (1 ≤ (M.set q (turn 3 n y)).length ∧ (M.set q (turn 3 n y)).length ≤ 900) := Lib.hid (by rw [List.length_set]; have := HML.out; have := HL.out; omega)
    clear e
    go_wp2_with fail
    generalize V.setCell ⟨g, q * 4 + 3, none⟩ (.int .i64 n) = Z at HZ ⊢
    generalize M.set q (turn 3 n y) = M' at HZ HL2
    clear b0 b1 b2 b3 e0 ez y0 y1 y2 y3 gz HV HML HY HL hq1 hq2 hq3 hq4 hq5 hnz hnz' HLA
    obtain ⟨l1', l2'⟩ := HL2.out
    have e1 := cell_at HZ.out.a 0
    simp at e1
    have LZ := Lib.hid (lt_of_block HZ.out.a)
    have HT : Hid (∀ (i : Int) (W' : World), Below Z.heap.size Z W' → Calls Try.prog 10 #[.agg #[.slice (some ⟨g, 0, none⟩) M'.length c'], .agg #[.int .i64 1, .int .i64 0, .slice none 0 0], .int .i64 i] W' fun e w' => e = .returned (.bool true) ∧ Below W'.heap.size W' w') := Lib.hid (fun i W' h => told4_any M' _ c' 1 0 .nil none 0 i Z.heap.size W' (HZ.out.later h) (SlIn.none _ _) h.size (by omega))
    have HB := Lib.hid HZ.out.hb
    clear HZ HL2 hX1 hH0 hH1
    generalize M'.length = L at l1' l2' e1 HT ⊢
    have m0 : ¬ (L : Int) = 0 := by omega
    have m1 : ¬ L = 0 := by omega
    have m2 : (1 : Int) ≤ (L : Int) := by omega
    go_region_held3 (fun w' => Hid (Below Z.heap.size Z w') ∧ w'.cell? ⟨w1.heap.size, 0, none⟩ = some (.slice (some ⟨g, 0, none⟩) L c'))
      (first | exact ⟨Lib.hid (Below.refl _ _).drew, e1⟩ | (go_split_ands; exact ⟨Lib.hid (Below.step (Hid.out (by assumption)) hbN (Nat.le_refl _)), (bcell (Below.step (Hid.out (by assumption)) hbN (Nat.le_refl _)) _ 0 LZ.out).trans e1⟩))
      (first | (go_at_call 8; go_split_ands; refine (awake4_any _).mono ?_; rintro e wN ⟨rfl, hbN⟩) | (go_at_call 10; go_split_ands; refine (HT.out _ _ (Hid.out (by assumption))).mono ?_; rintro e wN ⟨rfl, hbN⟩))
    all_goals go_split_ands
    all_goals have hEE := Lib.hid (Below.step HB.out (Hid.out (by assumption : Hid (Below Z.heap.size Z wN))) (Nat.le_refl _))
    all_goals go_wp2_with fail
    all_goals go_ret
    all_goals exact ⟨rfl, hEE.out⟩
  · have b0 : (H % 6 == 0) = false := by rw [e]; rfl
    have b1 : (H % 6 == 1) = false := by rw [e]; rfl
    have b2 : (H % 6 == 2) = false := by rw [e]; rfl
    have b3 : (H % 6 == 3) = false := by rw [e]; rfl
    have b4 : (H % 6 == 4) = true := by rw [e]; rfl
    have lA := lt_of_block HV.out.a
    have lg := HLG.out
    obtain ⟨g2, c2, w3, hrun, p1, p2, p3⟩ := sp_push (A := w1.heap.size) (w := w) (w1 := V.drew) (ns := M) (x := some ⟨g, 0, none⟩) (c := c') HV.out.own (Below.draws HV.out.hb 1) HV.out.a HV.out.lA (by have := HML.out; omega) y
    rw [HML.out] at hrun p1 p3
    have HRUN := Lib.hid hrun
    have HZ := Lib.hid p3.tl
    have HL2 : Hid (1 ≤ (M ++ [y]).length ∧ (M ++ [y]).length ≤ 900) := Lib.hid (by rw [List.length_append]; have := HML.out; simp only [List.length_cons, List.length_nil]; omega)
    clear e hrun p3
    go_wp2_with fail
    go_region_law (refine step_append (by rfl) _ _ _ (by rfl) (by rfl) (by rfl) HRUN.out ?_)
    all_goals
      go_wp2_with fail
      generalize w3.setCell ⟨w1.heap.size, 0, none⟩ (.slice (some ⟨g2, 0, none⟩) (ns.length + 1 + 1) c2) = Z at HZ ⊢
      generalize M ++ [y] = M' at HZ HL2
      clear b0 b1 b2 b3 b4 e0 ez y0 y1 y2 y3 gz HV HML HY HL hq1 hq2 hq3 hq4 hq5 hnz hnz' HLA lA lg HLG p1 p2
      obtain ⟨l1', l2'⟩ := HL2.out
      have e1 := cell_at HZ.out.a 0
      simp at e1
      have LZ := Lib.hid (lt_of_block HZ.out.a)
      have HT : Hid (∀ (i : Int) (W' : World), Below Z.heap.size Z W' → Calls Try.prog 10 #[.agg #[.slice (some ⟨g2, 0, none⟩) M'.length c2], .agg #[.int .i64 1, .int .i64 0, .slice none 0 0], .int .i64 i] W' fun e w' => e = .returned (.bool true) ∧ Below W'.heap.size W' w') := Lib.hid (fun i W' h => told4_any M' _ c2 1 0 .nil none 0 i Z.heap.size W' (HZ.out.later h) (SlIn.none _ _) h.size (by omega))
      have HB := Lib.hid HZ.out.hb
      clear HZ HL2 hX1 hH0 hH1
      generalize M'.length = L at l1' l2' e1 HT ⊢
      have m0 : ¬ (L : Int) = 0 := by omega
      have m1 : ¬ L = 0 := by omega
      have m2 : (1 : Int) ≤ (L : Int) := by omega
      go_region_held3 (fun w' => Hid (Below Z.heap.size Z w') ∧ w'.cell? ⟨w1.heap.size, 0, none⟩ = some (.slice (some ⟨g2, 0, none⟩) L c2))
        (first | exact ⟨Lib.hid (Below.refl _ _).drew, e1⟩ | (go_split_ands; exact ⟨Lib.hid (Below.step (Hid.out (by assumption)) hbN (Nat.le_refl _)), (bcell (Below.step (Hid.out (by assumption)) hbN (Nat.le_refl _)) _ 0 LZ.out).trans e1⟩))
        (first | (go_at_call 8; go_split_ands; refine (awake4_any _).mono ?_; rintro e wN ⟨rfl, hbN⟩) | (go_at_call 10; go_split_ands; refine (HT.out _ _ (Hid.out (by assumption))).mono ?_; rintro e wN ⟨rfl, hbN⟩))
      all_goals go_split_ands
      all_goals have hEE := Lib.hid (Below.step HB.out (Hid.out (by assumption : Hid (Below Z.heap.size Z wN))) (Nat.le_refl _))
      all_goals go_wp2_with fail
      all_goals go_ret
      all_goals exact ⟨rfl, hEE.out⟩
  · have b0 : (H % 6 == 0) = false := by rw [e]; rfl
    have b1 : (H % 6 == 1) = false := by rw [e]; rfl
    have b2 : (H % 6 == 2) = false := by rw [e]; rfl
    have b3 : (H % 6 == 3) = false := by rw [e]; rfl
    have b4 : (H % 6 == 4) = false := by rw [e]; rfl
    have HZ0 : Hid (∀ z, TlAt w w1.heap.size g c' ((M.set q (turn 0 z y)).set q (turn 1 0 (turn 0 z y))) ((V.setCell ⟨g, q * 4, none⟩ (.int .i64 z)).setCell ⟨g, q * 4 + 1, none⟩ (.int .i64 0))) := Lib.hid (fun z => (HV.out.tl.turn HY.out 0 (by omega) z).turn (List.getElem?_set_self (List.getElem?_eq_some_iff.1 HY.out).1) 1 (by omega) 0)
    have HL20 : Hid (∀ z, 1 ≤ ((M.set q (turn 0 z y)).set q (turn 1 0 (turn 0 z y))).length ∧ ((M.set q (turn 0 z y)).set q (turn 1 0 (turn 0 z y))).length ≤ 900) := Lib.hid (fun z => by rw [List.length_set, List.length_set]; have := HML.out; have := HL.out; omega)
    have HZ := Lib.hid (HZ0.out (bits .and .i64 n 7))
    have HL2 := Lib.hid (HL20.out (bits .and .i64 n 7))
    clear e HZ0 HL20
    go_wp2_with fail
    generalize (V.setCell ⟨g, q * 4, none⟩ (.int .i64 (bits .and .i64 n 7))).setCell ⟨g, q * 4 + 1, none⟩ (.int .i64 0) = Z at HZ ⊢
    generalize (M.set q (turn 0 (bits .and .i64 n 7) y)).set q (turn 1 0 (turn 0 (bits .and .i64 n 7) y)) = M' at HZ HL2
    clear b0 b1 b2 b3 b4 e0 ez y0 y1 y2 y3 gz HV HML HY HL hq1 hq2 hq3 hq4 hq5 hnz hnz' HLA
    obtain ⟨l1', l2'⟩ := HL2.out
    have e1 := cell_at HZ.out.a 0
    simp at e1
    have LZ := Lib.hid (lt_of_block HZ.out.a)
    have HT : Hid (∀ (i : Int) (W' : World), Below Z.heap.size Z W' → Calls Try.prog 10 #[.agg #[.slice (some ⟨g, 0, none⟩) M'.length c'], .agg #[.int .i64 1, .int .i64 0, .slice none 0 0], .int .i64 i] W' fun e w' => e = .returned (.bool true) ∧ Below W'.heap.size W' w') := Lib.hid (fun i W' h => told4_any M' _ c' 1 0 .nil none 0 i Z.heap.size W' (HZ.out.later h) (SlIn.none _ _) h.size (by omega))
    have HB := Lib.hid HZ.out.hb
    clear HZ HL2 hX1 hH0 hH1
    generalize M'.length = L at l1' l2' e1 HT ⊢
    have m0 : ¬ (L : Int) = 0 := by omega
    have m1 : ¬ L = 0 := by omega
    have m2 : (1 : Int) ≤ (L : Int) := by omega
    go_region_held3 (fun w' => Hid (Below Z.heap.size Z w') ∧ w'.cell? ⟨w1.heap.size, 0, none⟩ = some (.slice (some ⟨g, 0, none⟩) L c'))
      (first | exact ⟨Lib.hid (Below.refl _ _).drew, e1⟩ | (go_split_ands; exact ⟨Lib.hid (Below.step (Hid.out (by assumption)) hbN (Nat.le_refl _)), (bcell (Below.step (Hid.out (by assumption)) hbN (Nat.le_refl _)) _ 0 LZ.out).trans e1⟩))
      (first | (go_at_call 8; go_split_ands; refine (awake4_any _).mono ?_; rintro e wN ⟨rfl, hbN⟩) | (go_at_call 10; go_split_ands; refine (HT.out _ _ (Hid.out (by assumption))).mono ?_; rintro e wN ⟨rfl, hbN⟩))
    all_goals go_split_ands
    all_goals have hEE := Lib.hid (Below.step HB.out (Hid.out (by assumption : Hid (Below Z.heap.size Z wN))) (Nat.le_refl _))
    all_goals go_wp2_with fail
    all_goals go_ret
    all_goals exact ⟨rfl, hEE.out⟩

set_option maxRecDepth 100000 in
theorem lifted (os : Os) (started : os.Started) (H : Type) (enc : TypeId × Value → H) :
    ReturnsInHanded {} Try.checked os 5 .any (Rows.arenaSpoiltSpec.pre6 enc Try.prog Try.f5 Rows.arenaSpoiltRow.domain false) (Rows.arenaSpoiltSpec.post enc Try.prog Try.f5 false true false false) := by
  refine returnsInHanded_of_change (C := Try.checked) own started (by kernel_rfl) Try.func5
    (ChangeSpec.witness6 (enc := enc) (C := Try.checked) false ⟨#[], #[.slice none 0 0, .int .u8 0, .int .u8 0, .int .i64 0], []⟩ 8 (by kernel_rfl) (by kernel_rfl) (by kernel_rfl) (by kernel_rfl)) ?_
  intro W base args ds gs before hval0 hW hcnd _
  have hval : ∀ (j : Nat) t v, Try.f5.params[j]? = some t → args[j]? = some v → Value.okWide Try.prog W .any base t v := hval0
  have hW' := hW
  obtain ⟨p, q, hA0, hV, rfl, hfz, hnd⟩ := hW
  have hA : DataW.TrodAll enc Try.prog W 0 (fun _ => true) true Try.f5.params.toList args.toList ds p := hA0
  rw [Try.params5] at hA hval
  obtain ⟨v0, vs0, d0, ds0, p0, q0, hargs, rfl, rfl, h0, hr0⟩ := trodAll_cons hA
  obtain ⟨v1, vs1, d1, ds1, p1, q1, rfl, rfl, rfl, h1, hr1⟩ := trodAll_cons hr0
  obtain ⟨v2, vs2, d2, ds2, p2, q2, rfl, rfl, rfl, h2, hr2⟩ := trodAll_cons hr1
  obtain ⟨v3, vs3, d3, ds3, p3, q3, rfl, rfl, rfl, h3, hr3⟩ := trodAll_cons hr2
  obtain ⟨rfl, rfl, rfl⟩ := trodAll_nil hr3
  obtain rfl : args = #[v0, v1, v2, v3] := by cases args; simp_all
  obtain ⟨rfl, rfl⟩ := trodVars_none hV
  obtain ⟨n1, a1, c1, rfl, hs0⟩ := arg_rows (hval 0 31 v0 rfl rfl) h0
  obtain ⟨X, rfl, rfl, rfl, w1⟩ := open_int Try.underlying5 (hval 1 5 v1 rfl rfl) h1
  obtain ⟨Y, rfl, rfl, rfl, w2⟩ := open_int Try.underlying5 (hval 2 5 v2 rfl rfl) h2
  obtain ⟨N, rfl, rfl, rfl, w3⟩ := open_int Try.underlying3 (hval 3 3 v3 rfl rfl) h3
  have hX := u8_range w1
  have hY := u8_range w2
  have hlt := hW'.lt
  refine (walk n1 c1 a1 X Y N W hs0 hX.1 (by omega) hY.1 (by omega)).mono fun e W' ⟨he, hb⟩ => ?_
  subst he
  have t0 := Below.trod laidOut (by kernel_rfl) (of_decide_eq_true (by kernel_rfl)) h0 hb (fun x hx => hlt x (by simp [hx]))
  exact ⟨_, rfl, ⟨_, _, _, [], _, [], hW', trodAll_mk1 (shut_bool Try.underlying4 _), trodAll_mk4 t0 (shut_int Try.underlying5 w1) (shut_int Try.underlying5 w2) (shut_int Try.underlying3 w3), rfl, hb.frame _, fun h => by cases h⟩⟩

theorem over : Rows.arenaSpoiltRow.holds Try.pinned (OpenSpec.ofChange Rows.arenaSpoiltSpec) :=
  OpenClaim.holds_of_wide 5 Try.f5 rfl rfl rfl rfl rfl rfl rfl ⟨rfl, rfl, rfl, rfl, rfl⟩ rfl rfl rfl rfl rfl (by kernel_rfl) Try.func5 (by kernel_rfl)
    (of_decide_eq_true (by kernel_rfl)) (by unfold Func.isWrapper; first | (rw [if_pos (by decide +kernel)]; kernel_rfl) | (rw [if_neg (by decide +kernel)]; exact ⟨rfl, rfl⟩))
    (fun os started H enc _ => lifted os started H enc)

/-- THE STATEMENT -/
theorem proved : Rows.ArenaSpoiltSaid :=
  over
#print axioms proved
end Go.Proofs.Ytcaefdngdmnpmaa.arenaSpoilt
