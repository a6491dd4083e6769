/- For all numbers the law HornSpoilt returns true: of clauses with one thing spoilt, and of very many, the program tells what the document's own answer tells. No condition. -/
import Derived.Test.YtkadbllabeobeaaHawake
import Derived.Test.YtkadbllabeobeaaHmade
import Derived.Test.YtkadbllabeobeaaHshape
import Derived.Carry
namespace Go.Proofs.Ytkadbllabeobeaa.hornSpoilt
open Go.ChangeShapes Go.WideShapes Go.ChangeAt Go.RowKit

theorem told_shape (vars : Int) {W1 W : World} {n cap V cm : Nat} {a am : Option Addr} (hc : ClsS W1 n a cap) (hi : IntsS W1 V am cm) (hb : Below W1.heap.size W1 W) :
    Calls Try.prog 8 #[.int .i64 vars, .slice a n cap, .slice am V cm] W fun e w' => e = .returned (.bool true) ∧ Below W.heap.size W w' := by
  obtain ⟨l, hl, hin⟩ := hc.cls
  obtain ⟨m, hm, him⟩ := hi.ints
  subst hl hm
  exact told8_any vars m l a am cap cm W.heap.size W ((hin.below hb).mono hb.size) ((him.below hb).mono hb.size) (Nat.le_refl _)
/-- What lies there when the clause's From has been copied. -/
def SpAt (base g L k2 q g4 n4 k4 gm V : Nat) (W : World) : Prop :=
  SRow W base (.slice (some ⟨g, 0, none⟩) L k2) L ∧ W.cell? ⟨g, q * 3, none⟩ = some (.slice (some ⟨g4, 0, none⟩) n4 k4) ∧ AtsS W (fun b => b ≠ g) n4 (some ⟨g4, 0, none⟩) k4 ∧ (∀ o, W.frozen? ⟨g4, o, none⟩ = false) ∧ (∃ m, m.length = V ∧ NumB W gm m) ∧ gm ≠ g ∧ base ≤ g ∧ base ≤ g4 ∧ base ≤ gm ∧ 0 < n4 ∧ q < L

set_option maxRecDepth 100000 in
set_option maxHeartbeats 16000000 in
theorem walk (n how k : Int) (h0 : 0 ≤ n) (h1 : n < 256) (k0 : 0 ≤ how) (k1 : how < 256) (ll cl lv cv B : Nat) (al av : Option Addr) (w : World) (hl : ByIn w (· < B) ll al cl) (hv : ByIn w (· < B) lv av cv) (hB : B ≤ w.heap.size) :
    Calls Try.prog 5 #[.int .u8 n, .slice al ll cl, .slice av lv cv, .int .u8 how, .int .i64 k] w fun e w' => e = .returned (.bool true) ∧ Below w.heap.size w w' := by
  have CM := Lib.hid (fun W (h : Below w.heap.size w W) => made8_any n h0 h1 ll cl B al W (hl.below (h.mono hB)) (Nat.le_trans hB h.size))
  have CD := Lib.hid (fun W (h : Below w.heap.size w W) => model8_any n h0 h1 lv cv B av W (hv.below (h.mono hB)) (Nat.le_trans hB h.size))
  have CV := Lib.hid (fun W => vars8_any n h0 h1 W)
  obtain ⟨hV1, hV2⟩ := varsN_bd n
  generalize varsN n = V at CM CD CV hV1 hV2
  clear hl hv
  go_enter Try.func5, Try.ntmps5
  go_wp2_with fail
  refine (CM.out _ (Below.refl _ _)).mono ?_
  rintro e w1 ⟨l, x, c, rfl, hco, hall, hl30, b1⟩
  have hb1 : Below w.heap.size w (w1.alloc (.cells #[.int .i64 0, .int .i64 0] 26)) := b1.alloc b1.size _
  have hz1 : (w1.alloc (.cells #[.int .i64 0, .int .i64 0] 26)).heap.size = w1.heap.size + 1 := by simp
  have hco1 : COwn (w1.alloc (.cells #[.int .i64 0, .int .i64 0] 26)) w.heap.size (.slice x l.length c) l := hco.keep (by simp) (fun b _ hb => heap_old _ _ hb)
  have hA := heap_new w1 (.cells #[.int .i64 0, .int .i64 0] 26)
  have hat : AtsIn (w1.alloc (.cells #[.int .i64 0, .int .i64 0] 26)) (fun b => w.heap.size ≤ b ∧ b < (w1.alloc (.cells #[.int .i64 0, .int .i64 0] 26)).heap.size ∧ ¬ OwnB (.slice x l.length c) b) [(0, 0)] (some ⟨w1.heap.size, 0, none⟩) 1 := by
    refine ⟨Nat.le_refl _, by unfold maxLen; omega, (fun h => by cases h), fun _ => ⟨w1.heap.size, 0, rfl, ⟨b1.size, by omega, fun hO => by have := (hco.lt _ hO).2; omega⟩, fun i hi => ?_⟩⟩
    have hi0 : i = 0 := by simp at hi; exact hi
    subst hi0
    exact ⟨cell_at hA 0, cell_at hA 1⟩
  obtain ⟨g, k2, w2, hrun, hco2, ht2⟩ := hco1.push 22 ([(0, 0)], (0, 0)) hat (by omega) hb1.size
  have hlen2 : (l ++ [(([(0, 0)], (0, 0)) : Cl)]).length = l.length + 1 := by simp
  have hall2 : (l ++ [(([(0, 0)], (0, 0)) : Cl)]).all (clB V) = true := by rw [List.all_append, hall]; simp [clB, atB, frB]; omega
  rw [hz1] at hrun
  have HRUN := Lib.hid hrun
  have B2 := Lib.hid (hb1.trans (ht2.low hb1.size (fun b hO => (hco1.lt b hO).1)))
  generalize hL2 : l ++ [(([(0, 0)], (0, 0)) : Cl)] = l2 at hlen2 hall2 hco2
  obtain ⟨L, hL⟩ : ∃ L, L = l.length + 1 := ⟨_, rfl⟩
  rw [← hL] at hlen2 hco2
  have HRUN : Hid ((Builtin.append_ #[22, 22] 22 #[.slice x l.length c, .slice (some ⟨w1.heap.size + 1, 0, none⟩) 1 1]).run Try.prog ((w1.alloc (.cells #[.int .i64 0, .int .i64 0] 26)).alloc (.cells #[.slice (some ⟨w1.heap.size, 0, none⟩) 1 1, .int .i64 0, .int .i64 0] 28)) = .ok (.slice (some ⟨g, 0, none⟩) L k2) w2) := Lib.hid (by rw [hL]; exact hrun)
  have hL31 : L ≤ 31 := by omega
  have hL1 : 1 ≤ L := by omega
  have hLz : (L : Int) ≠ 0 := by omega
  have HS2 : Hid (SRow w2 w.heap.size (.slice (some ⟨g, 0, none⟩) L k2) L) := Lib.hid (by have := SRow.of hco2; rwa [hlen2] at this)
  have HC2 : Hid (ClsIn w2 (fun b => w.heap.size ≤ b ∧ b < w2.heap.size) l2 (some ⟨g, 0, none⟩) k2) := Lib.hid (by rw [← hlen2] at hco2; exact hco2.cls)
  have HALL := Lib.hid hall2
  have HLEN := Lib.hid hlen2
  have hg := hco2.lt g rfl
  clear hrun hco hall hl30 b1 hb1 hz1 hco1 hA hat hco2 ht2 hlen2 hall2 hL2 hL
  go_wp2_with (at_builtin; refine wpList_append_run (by rfl) _ _ _ (by rfl) (by rfl) (by rfl) HRUN.out ?_)
  refine (CD.out _ B2.out).mono ?_
  rintro e w3 ⟨m, hm, hlow, rfl, hnb, b3⟩
  obtain ⟨q, hq⟩ : ∃ q : Nat, how / 8 % (L : Int) = (q : Int) := ⟨(how / 8 % (L : Int)).toNat, by have := Int.emod_nonneg (how / 8) hLz; omega⟩
  have hqL : q < L := by have := Int.emod_lt_of_pos (how / 8) (b := (L : Int)) (by omega); omega
  have hqL' : (q : Int) < (L : Int) := by omega
  have hq0 : (0 : Int) ≤ (q : Int) := by omega
  obtain ⟨b', o', hb', _, hf⟩ := (HC2.out.keep (w' := w3) (fun b hb => b3.block b hb.2)).some (by have := HLEN.out; omega)
  cases hb'
  obtain ⟨⟨a', c', e0, hat⟩, _, _⟩ := hf q (by have := HLEN.out; omega)
  have hfr := frB_of (clB_of (all_getD HALL.out cl0 (i := q) (by have := HLEN.out; omega))).2.1
  rw [Nat.zero_add] at e0
  obtain ⟨n4, hn4⟩ : ∃ n4, n4 = (l2.getD q cl0).1.length := ⟨_, rfl⟩
  have hats := AtsS.of hat
  rw [← hn4] at e0 hats hfr
  obtain ⟨hn41, hn46⟩ := hfr
  obtain ⟨g4, k4, w4, hrun4, hb4, hat4, hg4, hfz4⟩ := at_copy (W := w3) 24 hats (by omega) (by omega)
  have hz3 := b3.size
  have hz4 := hb4.size
  have hs4 : SRow w4 w.heap.size (.slice (some ⟨g, 0, none⟩) L k2) L := (HS2.out.below b3).below hb4
  obtain ⟨⟨a0, n0, c0, cq, _⟩, _, _, hfg⟩ := hs4.at hqL
  have hgz : g < w4.heap.size := by omega
  have hnm : NumB w4 w2.heap.size m := (hb4.block _ hnb.lt).trans hnb
  have hB4 : Below w.heap.size w w4 := Below.step (Below.step B2.out b3 (Nat.le_refl _)) hb4 (Nat.le_refl _)
  have hat4' : AtsS w4 (fun b => b ≠ g) n4 (some ⟨g4, 0, none⟩) k4 := hat4.weak (fun b hb => by omega)
  have hs5 := hs4.setFrom hqL hat4'
  have hgm : w2.heap.size ≠ g := by omega
  have HSP : Hid (SpAt w.heap.size g L k2 q g4 n4 k4 w2.heap.size V (w4.setCell ⟨g, q * 3, none⟩ (.slice (some ⟨g4, 0, none⟩) n4 k4))) := Lib.hid
    ⟨hs5, World.cell?_setCell_same' _ _ _ (by rw [cq]; rfl), hat4'.kind (Kd.setSlice cq hat4'.any).1, fun o => by rw [World.frozen?_setCell]; exact hfz4 o, ⟨m, hm, (Below.heap_setCell _ _ _ _ hgm).trans hnm⟩, hgm, hg.1, by have := hB4.size; have := B2.out.size; omega, by have := B2.out.size; omega, by omega, hqL⟩
  have HB5 : Hid (Below w.heap.size w (w4.setCell ⟨g, q * 3, none⟩ (.slice (some ⟨g4, 0, none⟩) n4 k4))) := Lib.hid (hB4.setCell (p := ⟨g, q * 3, none⟩) hg.1 _)
  have HRUN4 := Lib.hid hrun4
  have cq3 : w3.cell? ⟨g, q * 3, none⟩ = some (.slice a' n4 c') := e0
  have fq4 := hfg (q * 3)
  have hgl3 : g < w3.heap.size := by omega
  clear hf hat hats hn4 hrun4 hb4 hat4 hfz4 hs4 hfg hnm hB4 hat4' hs5 hlow hnb b3 e0 hm HRUN HC2 HALL HLEN HS2 CM CD B2
  obtain ⟨w5, hw5⟩ : ∃ w5, w4.setCell ⟨g, q * 3, none⟩ (.slice (some ⟨g4, 0, none⟩) n4 k4) = w5 := ⟨_, rfl⟩
  rw [hw5] at HSP HB5
  obtain ⟨hsr, c5q, hat5, hf5, ⟨m5, hm5, hnb5⟩, hgm5, hbg, hbg4, hbgm, hn40, _⟩ := id HSP.out
  obtain ⟨_, ⟨z1, c51⟩, ⟨z2, c52⟩, hfg5⟩ := hsr.at hqL
  have hcl5 := hsr.cls
  have hin5 : IntsS w5 V (some ⟨w2.heap.size, 0, none⟩) V := by have := IntsS.of (hnb5.ints (cap := V) (by omega) (by omega)); rwa [hm5] at this
  obtain ⟨b'', o'', hb'', _, hf4⟩ := hat5.2.2.2 hn40
  cases hb''
  obtain ⟨⟨z3, c53⟩, ⟨z4, c54⟩⟩ := hf4 0 hn40
  simp only [Nat.zero_mul, Nat.zero_add, Nat.add_zero] at c53 c54
  have HCL := Lib.hid hcl5
  have HIN := Lib.hid hin5
  have HF5 := Lib.hid hfg5
  have HF4 := Lib.hid hf5
  have HNB := Lib.hid hnb5
  have HM5 := Lib.hid hm5
  clear hsr hat5 hf5 hnb5 hfg5 hcl5 hin5 hf4 hm5
  have he : how % 8 = 0 ∨ how % 8 = 1 ∨ how % 8 = 2 ∨ how % 8 = 3 ∨ how % 8 = 4 ∨ how % 8 = 5 ∨ how % 8 = 6 ∨ how % 8 = 7 := by omega
  rcases he with he | he | he | he | he | he | he | he
  · have f6 := HF5.out (q * 3 + 1)
    have HS6 : Hid (ClsS (w5.setCell ⟨g, q * 3 + 1, none⟩ (.int .i64 k)) L (some ⟨g, 0, none⟩) k2 ∧ IntsS (w5.setCell ⟨g, q * 3 + 1, none⟩ (.int .i64 k)) V (some ⟨w2.heap.size, 0, none⟩) V ∧ Below w.heap.size w (w5.setCell ⟨g, q * 3 + 1, none⟩ (.int .i64 k))) := Lib.hid
      ⟨HCL.out.kind (Kd.setInt ⟨_, c51⟩ k), HIN.out.kind (Kd.setInt ⟨_, c51⟩ k), HB5.out.setCell (p := ⟨g, q * 3 + 1, none⟩) hbg _⟩
    go_wp2_with (first | (at_builtin; refine wpList_append_run (by rfl) _ _ _ (by rfl) (by rfl) (by rfl) HRUN4.out ?_) | (go_at_call 7; refine (awake8_any _).mono ?_; rintro e w7 ⟨rfl, b7⟩) | (go_at_call 9; refine (CV.out _).mono ?_; rintro e w' ⟨rfl, rfl⟩) | (go_at_call 8; refine (told_shape _ HS6.out.1 HS6.out.2.1 b7).mono ?_; rintro e w8 ⟨rfl, b8⟩))
    go_ret
    exact ⟨rfl, Below.step (Below.step HS6.out.2.2 b7 (Nat.le_refl _)) b8 (Nat.le_refl _)⟩
  · have f6 := HF5.out (q * 3 + 2)
    have HS6 : Hid (ClsS (w5.setCell ⟨g, q * 3 + 2, none⟩ (.int .i64 k)) L (some ⟨g, 0, none⟩) k2 ∧ IntsS (w5.setCell ⟨g, q * 3 + 2, none⟩ (.int .i64 k)) V (some ⟨w2.heap.size, 0, none⟩) V ∧ Below w.heap.size w (w5.setCell ⟨g, q * 3 + 2, none⟩ (.int .i64 k))) := Lib.hid
      ⟨HCL.out.kind (Kd.setInt ⟨_, c52⟩ k), HIN.out.kind (Kd.setInt ⟨_, c52⟩ k), HB5.out.setCell (p := ⟨g, q * 3 + 2, none⟩) hbg _⟩
    go_wp2_with (first | (at_builtin; refine wpList_append_run (by rfl) _ _ _ (by rfl) (by rfl) (by rfl) HRUN4.out ?_) | (go_at_call 7; refine (awake8_any _).mono ?_; rintro e w7 ⟨rfl, b7⟩) | (go_at_call 9; refine (CV.out _).mono ?_; rintro e w' ⟨rfl, rfl⟩) | (go_at_call 8; refine (told_shape _ HS6.out.1 HS6.out.2.1 b7).mono ?_; rintro e w8 ⟨rfl, b8⟩))
    go_ret
    exact ⟨rfl, Below.step (Below.step HS6.out.2.2 b7 (Nat.le_refl _)) b8 (Nat.le_refl _)⟩
  · have f6 := HF4.out 0
    have HS6 : Hid (ClsS (w5.setCell ⟨g4, 0, none⟩ (.int .i64 k)) L (some ⟨g, 0, none⟩) k2 ∧ IntsS (w5.setCell ⟨g4, 0, none⟩ (.int .i64 k)) V (some ⟨w2.heap.size, 0, none⟩) V ∧ Below w.heap.size w (w5.setCell ⟨g4, 0, none⟩ (.int .i64 k))) := Lib.hid
      ⟨HCL.out.kind (Kd.setInt ⟨_, c53⟩ k), HIN.out.kind (Kd.setInt ⟨_, c53⟩ k), HB5.out.setCell (p := ⟨g4, 0, none⟩) hbg4 _⟩
    go_wp2_with (first | (at_builtin; refine wpList_append_run (by rfl) _ _ _ (by rfl) (by rfl) (by rfl) HRUN4.out ?_) | (go_at_call 7; refine (awake8_any _).mono ?_; rintro e w7 ⟨rfl, b7⟩) | (go_at_call 9; refine (CV.out _).mono ?_; rintro e w' ⟨rfl, rfl⟩) | (go_at_call 8; refine (told_shape _ HS6.out.1 HS6.out.2.1 b7).mono ?_; rintro e w8 ⟨rfl, b8⟩))
    go_ret
    exact ⟨rfl, Below.step (Below.step HS6.out.2.2 b7 (Nat.le_refl _)) b8 (Nat.le_refl _)⟩
  · have f6 := HF4.out 1
    have HS6 : Hid (ClsS (w5.setCell ⟨g4, 1, none⟩ (.int .i64 k)) L (some ⟨g, 0, none⟩) k2 ∧ IntsS (w5.setCell ⟨g4, 1, none⟩ (.int .i64 k)) V (some ⟨w2.heap.size, 0, none⟩) V ∧ Below w.heap.size w (w5.setCell ⟨g4, 1, none⟩ (.int .i64 k))) := Lib.hid
      ⟨HCL.out.kind (Kd.setInt ⟨_, c54⟩ k), HIN.out.kind (Kd.setInt ⟨_, c54⟩ k), HB5.out.setCell (p := ⟨g4, 1, none⟩) hbg4 _⟩
    go_wp2_with (first | (at_builtin; refine wpList_append_run (by rfl) _ _ _ (by rfl) (by rfl) (by rfl) HRUN4.out ?_) | (go_at_call 7; refine (awake8_any _).mono ?_; rintro e w7 ⟨rfl, b7⟩) | (go_at_call 9; refine (CV.out _).mono ?_; rintro e w' ⟨rfl, rfl⟩) | (go_at_call 8; refine (told_shape _ HS6.out.1 HS6.out.2.1 b7).mono ?_; rintro e w8 ⟨rfl, b8⟩))
    go_ret
    exact ⟨rfl, Below.step (Below.step HS6.out.2.2 b7 (Nat.le_refl _)) b8 (Nat.le_refl _)⟩
  · have f6 := HF5.out (q * 3)
    have HS6 : Hid (ClsS (w5.setCell ⟨g, q * 3, none⟩ (.slice none 0 0)) L (some ⟨g, 0, none⟩) k2 ∧ IntsS (w5.setCell ⟨g, q * 3, none⟩ (.slice none 0 0)) V (some ⟨w2.heap.size, 0, none⟩) V ∧ Below w.heap.size w (w5.setCell ⟨g, q * 3, none⟩ (.slice none 0 0))) := Lib.hid
      ⟨HCL.out.kind (Kd.setSlice c5q (AtsS.none _ _)), HIN.out.kind (Kd.setSlice c5q (AtsS.none _ _)), HB5.out.setCell (p := ⟨g, q * 3, none⟩) hbg _⟩
    go_wp2_with (first | (at_builtin; refine wpList_append_run (by rfl) _ _ _ (by rfl) (by rfl) (by rfl) HRUN4.out ?_) | (go_at_call 7; refine (awake8_any _).mono ?_; rintro e w7 ⟨rfl, b7⟩) | (go_at_call 9; refine (CV.out _).mono ?_; rintro e w' ⟨rfl, rfl⟩) | (go_at_call 8; refine (told_shape _ HS6.out.1 HS6.out.2.1 b7).mono ?_; rintro e w8 ⟨rfl, b8⟩))
    go_ret
    exact ⟨rfl, Below.step (Below.step HS6.out.2.2 b7 (Nat.le_refl _)) b8 (Nat.le_refl _)⟩
  · have hr3 : how / 8 % 3 = 0 ∨ how / 8 % 3 = 1 ∨ how / 8 % 3 = 2 := by omega
    rcases hr3 with e3 | e3 | e3
    · have hmk := make_ats5 w5
      have f6 := HF5.out (q * 3)
      have hat6 := (noughts w5 5 (by omega)).any
      have HS6 : Hid (ClsS ((w5.alloc (.cells (List.replicate 10 (Value.int .i64 0)).toArray 26)).setCell ⟨g, q * 3, none⟩ (.slice (some ⟨w5.heap.size, 0, none⟩) 5 5)) L (some ⟨g, 0, none⟩) k2 ∧ IntsS ((w5.alloc (.cells (List.replicate 10 (Value.int .i64 0)).toArray 26)).setCell ⟨g, q * 3, none⟩ (.slice (some ⟨w5.heap.size, 0, none⟩) 5 5)) V (some ⟨w2.heap.size, 0, none⟩) V ∧ Below w.heap.size w ((w5.alloc (.cells (List.replicate 10 (Value.int .i64 0)).toArray 26)).setCell ⟨g, q * 3, none⟩ (.slice (some ⟨w5.heap.size, 0, none⟩) 5 5))) := by
        have hbz := (Below.refl w5.heap.size w5).alloc (Nat.le_refl _) (.cells (List.replicate 10 (Value.int .i64 0)).toArray 26)
        have hgl : g < w5.heap.size := World.block_lt_of_cell? _ _ c5q
        have c6 := (bcell hbz g (q * 3) hgl).trans c5q
        have kd := (Kd.below hbz).trans (Kd.setSlice c6 hat6)
        exact Lib.hid ⟨HCL.out.kind kd, HIN.out.kind kd, (HB5.out.alloc HB5.out.size _).setCell (p := ⟨g, q * 3, none⟩) hbg _⟩
      have hgl : g < w5.heap.size := World.block_lt_of_cell? _ _ c5q
      rw [World.setCell_alloc_past _ _ _ _ hgl] at HS6
      generalize (List.replicate 10 (Value.int .i64 0)).toArray = zs at hmk HS6
      clear hat6
      go_wp2_with (first | (at_builtin; refine wpList_append_run (by rfl) _ _ _ (by rfl) (by rfl) (by rfl) HRUN4.out ?_) | (go_at_call 7; refine (awake8_any _).mono ?_; rintro e w7 ⟨rfl, b7⟩) | (go_at_call 9; refine (CV.out _).mono ?_; rintro e w' ⟨rfl, rfl⟩) | (go_at_call 8; refine (told_shape _ HS6.out.1 HS6.out.2.1 b7).mono ?_; rintro e w8 ⟨rfl, b8⟩))
      go_ret
      exact ⟨rfl, Below.step (Below.step HS6.out.2.2 b7 (Nat.le_refl _)) b8 (Nat.le_refl _)⟩
    · have hmk := make_ats6 w5
      have f6 := HF5.out (q * 3)
      have hat6 := (noughts w5 6 (by omega)).any
      have HS6 : Hid (ClsS ((w5.alloc (.cells (List.replicate 12 (Value.int .i64 0)).toArray 26)).setCell ⟨g, q * 3, none⟩ (.slice (some ⟨w5.heap.size, 0, none⟩) 6 6)) L (some ⟨g, 0, none⟩) k2 ∧ IntsS ((w5.alloc (.cells (List.replicate 12 (Value.int .i64 0)).toArray 26)).setCell ⟨g, q * 3, none⟩ (.slice (some ⟨w5.heap.size, 0, none⟩) 6 6)) V (some ⟨w2.heap.size, 0, none⟩) V ∧ Below w.heap.size w ((w5.alloc (.cells (List.replicate 12 (Value.int .i64 0)).toArray 26)).setCell ⟨g, q * 3, none⟩ (.slice (some ⟨w5.heap.size, 0, none⟩) 6 6))) := by
        have hbz := (Below.refl w5.heap.size w5).alloc (Nat.le_refl _) (.cells (List.replicate 12 (Value.int .i64 0)).toArray 26)
        have hgl : g < w5.heap.size := World.block_lt_of_cell? _ _ c5q
        have c6 := (bcell hbz g (q * 3) hgl).trans c5q
        have kd := (Kd.below hbz).trans (Kd.setSlice c6 hat6)
        exact Lib.hid ⟨HCL.out.kind kd, HIN.out.kind kd, (HB5.out.alloc HB5.out.size _).setCell (p := ⟨g, q * 3, none⟩) hbg _⟩
      have hgl : g < w5.heap.size := World.block_lt_of_cell? _ _ c5q
      rw [World.setCell_alloc_past _ _ _ _ hgl] at HS6
      generalize (List.replicate 12 (Value.int .i64 0)).toArray = zs at hmk HS6
      clear hat6
      go_wp2_with (first | (at_builtin; refine wpList_append_run (by rfl) _ _ _ (by rfl) (by rfl) (by rfl) HRUN4.out ?_) | (go_at_call 7; refine (awake8_any _).mono ?_; rintro e w7 ⟨rfl, b7⟩) | (go_at_call 9; refine (CV.out _).mono ?_; rintro e w' ⟨rfl, rfl⟩) | (go_at_call 8; refine (told_shape _ HS6.out.1 HS6.out.2.1 b7).mono ?_; rintro e w8 ⟨rfl, b8⟩))
      go_ret
      exact ⟨rfl, Below.step (Below.step HS6.out.2.2 b7 (Nat.le_refl _)) b8 (Nat.le_refl _)⟩
    · have hmk := make_ats7 w5
      have f6 := HF5.out (q * 3)
      have hat6 := (noughts w5 7 (by omega)).any
      have HS6 : Hid (ClsS ((w5.alloc (.cells (List.replicate 14 (Value.int .i64 0)).toArray 26)).setCell ⟨g, q * 3, none⟩ (.slice (some ⟨w5.heap.size, 0, none⟩) 7 7)) L (some ⟨g, 0, none⟩) k2 ∧ IntsS ((w5.alloc (.cells (List.replicate 14 (Value.int .i64 0)).toArray 26)).setCell ⟨g, q * 3, none⟩ (.slice (some ⟨w5.heap.size, 0, none⟩) 7 7)) V (some ⟨w2.heap.size, 0, none⟩) V ∧ Below w.heap.size w ((w5.alloc (.cells (List.replicate 14 (Value.int .i64 0)).toArray 26)).setCell ⟨g, q * 3, none⟩ (.slice (some ⟨w5.heap.size, 0, none⟩) 7 7))) := by
        have hbz := (Below.refl w5.heap.size w5).alloc (Nat.le_refl _) (.cells (List.replicate 14 (Value.int .i64 0)).toArray 26)
        have hgl : g < w5.heap.size := World.block_lt_of_cell? _ _ c5q
        have c6 := (bcell hbz g (q * 3) hgl).trans c5q
        have kd := (Kd.below hbz).trans (Kd.setSlice c6 hat6)
        exact Lib.hid ⟨HCL.out.kind kd, HIN.out.kind kd, (HB5.out.alloc HB5.out.size _).setCell (p := ⟨g, q * 3, none⟩) hbg _⟩
      have hgl : g < w5.heap.size := World.block_lt_of_cell? _ _ c5q
      rw [World.setCell_alloc_past _ _ _ _ hgl] at HS6
      generalize (List.replicate 14 (Value.int .i64 0)).toArray = zs at hmk HS6
      clear hat6
      go_wp2_with (first | (at_builtin; refine wpList_append_run (by rfl) _ _ _ (by rfl) (by rfl) (by rfl) HRUN4.out ?_) | (go_at_call 7; refine (awake8_any _).mono ?_; rintro e w7 ⟨rfl, b7⟩) | (go_at_call 9; refine (CV.out _).mono ?_; rintro e w' ⟨rfl, rfl⟩) | (go_at_call 8; refine (told_shape _ HS6.out.1 HS6.out.2.1 b7).mono ?_; rintro e w8 ⟨rfl, b8⟩))
      go_ret
      exact ⟨rfl, Below.step (Below.step HS6.out.2.2 b7 (Nat.le_refl _)) b8 (Nat.le_refl _)⟩
  · have hr4 : 0 ≤ how / 8 % 4 ∧ how / 8 % 4 ≤ 3 := by omega
    go_wp2_with (first | (at_builtin; refine wpList_append_run (by rfl) _ _ _ (by rfl) (by rfl) (by rfl) HRUN4.out ?_))
    go_loopw [11, 14] (fun cv iv wr => ∃ (L' g' k' i : Nat), cv = .slice (some ⟨g', 0, none⟩) L' k' ∧ iv = .int .i64 i ∧ L' = L + i ∧ L' ≤ 62 ∧ Hid (SRow wr w.heap.size (.slice (some ⟨g', 0, none⟩) L' k') L') ∧ Hid (NumB wr w2.heap.size m5) ∧ w2.heap.size ≠ g' ∧ Hid (Below w.heap.size w wr)) (fun _ iv _ => 62 - (intOf iv).toNat)
    case atStart => exact ⟨L, g, k2, 0, rfl, rfl, rfl, by omega, Lib.hid HSP.out.1, HNB, hgm5, HB5⟩
    case round =>
      obtain ⟨L', g', k', i, rfl, rfl, hL', hL62, hs, hn, hg', hb⟩ := hrel
      have HLi := Lib.hid hL'
      clear hL'
      have hL1' : 1 ≤ L' := by have := HLi.out; omega
      clear he
      have hi62 : i ≤ 61 := by have := HLi.out; omega
      have hi0 : (0 : Int) ≤ (i : Int) := by omega
      obtain ⟨W0, rfl⟩ : ∃ W0, W0 = wr := ⟨_, rfl⟩
      by_cases hc : (L' : Int) < 59 + how / 8 % 4
      · obtain ⟨⟨a', n', c', e0, hat⟩, ⟨z5, e1⟩, ⟨z6, e2⟩, hf⟩ := hs.out.at (i := 0) (by omega)
        obtain ⟨g'', k'', w'', hrun, hs2, ht⟩ := hs.out.push 22 (z1 := z5) (z2 := z6) (hat.weak (fun b hb hO => hb (by injection hO with hO; exact hO.symm))) (by omega) hb.out.size
        have hnl := hn.out.lt
        have hn2 : NumB w'' w2.heap.size m5 := (ht.2.2.2.2.1 _ hnl (fun hO => hg' (by injection hO with hO; exact hO.symm))).trans hn.out
        have hg2 : w2.heap.size ≠ g'' := fun e => by
          rcases ht.2.2.2.2.2 w2.heap.size (by rw [e]; rfl) with hO | hO
          · exact hg' (by injection hO with hO; exact hO.symm)
          · omega
        have hb2 : Below w.heap.size w w'' := hb.out.trans (ht.low hb.out.size (fun b hO => (hs.out.lt b hO).1))
        have HR := Lib.hid hrun
        have HN2 := Lib.hid hn2
        have HB2 := Lib.hid hb2
        have HS2 := Lib.hid hs2
        simp only [Nat.zero_mul, Nat.zero_add] at e0 e1 e2
        clear hrun hn2 hb2 hs2 ht hat hn hb
        go_wp2_with (first | (at_builtin; refine wpList_append_run (by rfl) _ _ _ (by rfl) (by rfl) (by rfl) HR.out ?_))
        go_roundw
        case rel => exact ⟨L' + 1, g'', k'', i + 1, rfl, by go_num, by have := HLi.out; omega, by omega, HS2, HN2, hg2, HB2⟩
        case measure => simp [intOf]; have := HLi.out; omega
      · have HS6 : Hid (ClsS W0 L' (some ⟨g', 0, none⟩) k' ∧ IntsS W0 V (some ⟨w2.heap.size, 0, none⟩) V ∧ Below w.heap.size w W0) := Lib.hid
          ⟨hs.out.cls, by have := IntsS.of (hn.out.ints (cap := V) (by have := HM5.out; omega) (by omega)); rwa [HM5.out] at this, hb.out⟩
        go_wp2_with (first | (at_builtin; refine wpList_append_run (by rfl) _ _ _ (by rfl) (by rfl) (by rfl) HRUN4.out ?_) | (go_at_call 7; refine (awake8_any _).mono ?_; rintro e w7 ⟨rfl, b7⟩) | (go_at_call 9; refine (CV.out _).mono ?_; rintro e w' ⟨rfl, rfl⟩) | (go_at_call 8; refine (told_shape _ HS6.out.1 HS6.out.2.1 b7).mono ?_; rintro e w8 ⟨rfl, b8⟩))
        go_ret
        exact ⟨rfl, Below.step (Below.step HS6.out.2.2 b7 (Nat.le_refl _)) b8 (Nat.le_refl _)⟩
  · have cm0 := HNB.out.at (i := 0) (by have := HM5.out; omega)
    have f6 := free_of HNB.out 0
    have HS6 : Hid (ClsS (w5.setCell ⟨w2.heap.size, 0, none⟩ (.int .i64 k)) L (some ⟨g, 0, none⟩) k2 ∧ IntsS (w5.setCell ⟨w2.heap.size, 0, none⟩ (.int .i64 k)) V (some ⟨w2.heap.size, 0, none⟩) V ∧ Below w.heap.size w (w5.setCell ⟨w2.heap.size, 0, none⟩ (.int .i64 k))) := Lib.hid
      ⟨HCL.out.kind (Kd.setInt ⟨_, cm0⟩ k), HIN.out.kind (Kd.setInt ⟨_, cm0⟩ k), HB5.out.setCell (p := ⟨w2.heap.size, 0, none⟩) hbgm _⟩
    generalize m5.getD 0 0 = um at cm0
    go_wp2_with (first | (at_builtin; refine wpList_append_run (by rfl) _ _ _ (by rfl) (by rfl) (by rfl) HRUN4.out ?_) | (go_at_call 7; refine (awake8_any _).mono ?_; rintro e w7 ⟨rfl, b7⟩) | (go_at_call 9; refine (CV.out _).mono ?_; rintro e w' ⟨rfl, rfl⟩) | (go_at_call 8; refine (told_shape _ HS6.out.1 HS6.out.2.1 b7).mono ?_; rintro e w8 ⟨rfl, b8⟩))
    go_ret
    exact ⟨rfl, Below.step (Below.step HS6.out.2.2 b7 (Nat.le_refl _)) b8 (Nat.le_refl _)⟩

theorem own : ownKnob Try.prog.godebug = none := by kernel_rfl

set_option maxRecDepth 100000 in
theorem lifted (os : Os) (started : os.Started) (H : Type) (enc : TypeId × Value → H) :
    ReturnsInHanded {} Try.checked os 5 .any (Rows.hornSpoiltSpec.pre6 enc Try.prog Try.f5 Rows.hornSpoiltRow.domain false) (Rows.hornSpoiltSpec.post enc Try.prog Try.f5 false true false false) := by
  refine returnsInHanded_of_change (C := Try.checked) own started (by kernel_rfl) Try.func5
    (ChangeSpec.witness6 (enc := enc) (C := Try.checked) false ⟨#[], #[.int .u8 0, .slice none 0 0, .slice none 0 0, .int .u8 0, .int .i64 0], []⟩ 8 (by kernel_rfl) (by kernel_rfl) (by kernel_rfl) (by kernel_rfl)) ?_
  intro W base args ds gs before hval0 hW hcnd _
  have hval : ∀ (j : Nat) t v, Try.f5.params[j]? = some t → args[j]? = some v → Value.okWide Try.prog W .any base t v := hval0
  have hW' := hW
  obtain ⟨p, q, hA0, hV, rfl, hfz, hnd⟩ := hW
  have hA : DataW.TrodAll enc Try.prog W 0 (fun _ => true) true Try.f5.params.toList args.toList ds p := hA0
  rw [Try.params5] at hA hval
  obtain ⟨v0, vs0, d0, ds0, p0, q0, hargs, rfl, rfl, h0, hr0⟩ := trodAll_cons hA
  obtain ⟨v1, vs1, d1, ds1, p1, q1, rfl, rfl, rfl, h1, hr1⟩ := trodAll_cons hr0
  obtain ⟨v2, vs2, d2, ds2, p2, q2, rfl, rfl, rfl, h2, hr2⟩ := trodAll_cons hr1
  obtain ⟨v3, vs3, d3, ds3, p3, q3, rfl, rfl, rfl, h3, hr3⟩ := trodAll_cons hr2
  obtain ⟨v4, vs4, d4, ds4, p4, q4, rfl, rfl, rfl, h4, hr4⟩ := trodAll_cons hr3
  obtain ⟨rfl, rfl, rfl⟩ := trodAll_nil hr4
  obtain rfl : args = #[v0, v1, v2, v3, v4] := by cases args; simp_all
  obtain ⟨rfl, rfl⟩ := trodVars_none hV
  obtain ⟨N, rfl, rfl, rfl, w0⟩ := open_int Try.underlying5 (hval 0 5 v0 rfl rfl) h0
  obtain ⟨ll, al, cl, rfl, hs1⟩ := h_arg_bytes (hval 1 31 v1 rfl rfl) h1
  obtain ⟨lv, av, cv, rfl, hs2⟩ := h_arg_bytes (hval 2 31 v2 rfl rfl) h2
  obtain ⟨H8, rfl, rfl, rfl, w3⟩ := open_int Try.underlying5 (hval 3 5 v3 rfl rfl) h3
  obtain ⟨K, rfl, rfl, rfl, w4⟩ := open_int Try.underlying3 (hval 4 3 v4 rfl rfl) h4
  have hN := h_u8_range w0
  have hH := h_u8_range w3
  have hlt := hW'.lt
  refine (walk N H8 K hN.1 hN.2 hH.1 hH.2 ll cl lv cv W.heap.size al av W hs1 hs2 (Nat.le_refl _)).mono fun e W' ⟨he, hb⟩ => ?_
  subst he
  have t1 := Below.trod h_laidOut (by kernel_rfl) (of_decide_eq_true (by kernel_rfl)) h1 hb (fun x hx => hlt x (by simp [hx]))
  have t2 := Below.trod h_laidOut (by kernel_rfl) (of_decide_eq_true (by kernel_rfl)) h2 hb (fun x hx => hlt x (by simp [hx]))
  exact ⟨_, rfl, ⟨_, _, _, [], _, [], hW', trodAll_mk1 (shut_bool Try.underlying4 _), ⟨_, _, shut_int Try.underlying5 w0, trodAll_mk4 t1 t2 (shut_int Try.underlying5 w3) (shut_int Try.underlying3 w4), rfl⟩, rfl, hb.frame _, fun h => by cases h⟩⟩

theorem over : Rows.hornSpoiltRow.holds Try.pinned (OpenSpec.ofChange Rows.hornSpoiltSpec) :=
  OpenClaim.holds_of_wide 5 Try.f5 rfl rfl rfl rfl rfl rfl rfl ⟨rfl, rfl, rfl, rfl, rfl⟩ rfl rfl rfl rfl rfl (by kernel_rfl) Try.func5 (by kernel_rfl)
    (of_decide_eq_true (by kernel_rfl)) (by unfold Func.isWrapper; first | (rw [if_pos (by decide +kernel)]; kernel_rfl) | (rw [if_neg (by decide +kernel)]; exact ⟨rfl, rfl⟩))
    (fun os started H enc _ => lifted os started H enc)

/-- THE STATEMENT -/
theorem proved : Rows.HornSpoiltSaid :=
  over
#print axioms proved
end Go.Proofs.Ytkadbllabeobeaa.hornSpoilt
