/- The contract of the program's Right of clauses: it tells whether they are right. Condition: the clauses lie in memory. -/
import Derived.Test.YtnfmcenedohdnaaHiter
import Derived.Test.YtnfmcenedohdnaaHsm
import Derived.IntWalk
namespace Go.Proofs.Ytnfmcenedohdnaa
open Go.RowKit Go.Shelf
attribute [local go_sem] Oper.semAt_some

theorem cntB_1 {vars : Int} (l : List Cl) (h : vars < 1) : hrB vars l = false := by simp [hrB, cntB]; intro h1; omega
theorem cntB_2 {vars : Int} (l : List Cl) (h : 16 < vars) : hrB vars l = false := by simp [hrB, cntB]; intro h1 h2; omega
theorem cntB_3 {vars : Int} (l : List Cl) (h : 60 < l.length) : hrB vars l = false := by simp [hrB, cntB]; intro h1 h2 h3; omega
theorem cntB_ok {vars : Int} {l : List Cl} (h1 : 1 ≤ vars) (h2 : vars ≤ 16) (h3 : l.length ≤ 60) : hrB vars l = (l.all frB && (pairs l).all (fun x => atB vars x.2)) := by
  rw [hrB_pairs]
  simp [hrB, cntB, h1, h2, h3]
theorem frB_no {l : List Cl} {k : Nat} (hk : k < l.length) (h : frB (l.getD k cl0) = false) : l.all frB = false := by
  cases e : l.all frB with
  | false => rfl
  | true => have := all_getD e cl0 hk; rw [h] at this; cases this
theorem frB_next {l : List Cl} {k : Nat} (hk : k < l.length) (h : frB (l.getD k cl0) = true) (hp : (l.take k).all frB = true) : (l.take (k + 1)).all frB = true := by
  rw [take_getD l cl0 hk, List.all_append, hp]
  simpa using h
theorem boxed_below {W W' : World} {B b : Nat} {t : TypeId} {v : Value} (h : Boxed W b t v) (hb : Below B W W') (hl : b < B) : Boxed W' b t v := (hb.block b hl).trans h

set_option maxRecDepth 100000 in
set_option maxHeartbeats 4000000 in
theorem hRight_in (n' : Nat) (hn : 3 ≤ n') (vars : Int) (l : List Cl) (a : Option Addr) (cap B : Nat) (w : World) (hin : ClsIn w (· < B) l a cap) (hB : B ≤ w.heap.size) :
    CallsIn Fence.wide n' Try.prog 17 #[.int .i64 vars, .slice a l.length cap] w fun e w' => e = .returned (.bool (hrB vars l)) ∧ Below w.heap.size w w' := by
  have hlen := hin.len
  have hdd : ∀ k : Nat, (Fence.wide.depth.isSome = true → 1 ≤ k) := fun k h => by cases h
  have bV := (Boxed.new w 3 (.int .i64 vars)).alloc (.cells #[.bool false] 4)
  have bR := Boxed.new (w.alloc (.cells #[.int .i64 vars] 3)) 4 (.bool false)
  rw [World.size_alloc] at bR
  have hB0 : Below w.heap.size w ((w.alloc (.cells #[.int .i64 vars] 3)).alloc (.cells #[.bool false] 4)) := ((Below.refl _ w).alloc (Nat.le_refl _) _).alloc (by simp) _
  have HB0 := Lib.hid hB0
  have cR := bR.cell
  clear hB0
  by_cases h1 : vars < 1
  · have HV := Lib.hid (cntB_1 l h1)
    generalize hrB vars l = V at HV ⊢
    have d1 : decide (vars < 1) = true := decide_eq_true h1
    refine callsIn_of_wp_marks Try.func17 rfl trivial ?_ rfl
    simp only [Try.ntmps17, List.size_toArray, List.length_cons, List.length_nil, Nat.reduceAdd, Nat.reduceSub, Array.replicate_succ, Array.replicate_zero, List.push_toArray, List.append_toArray, List.nil_append, List.cons_append]
    gi_wp2
    refine ⟨.bool false, ?_, by rw [HV.out], HB0.out⟩
    simp [results, Try.f17, go_sem, cR]
  · have d1 : decide (vars < 1) = false := decide_eq_false h1
    by_cases h2 : 16 < vars
    · have HV := Lib.hid (cntB_2 l h2)
      generalize hrB vars l = V at HV ⊢
      have d2 : decide (16 < vars) = true := decide_eq_true h2
      refine callsIn_of_wp_marks Try.func17 rfl trivial ?_ rfl
      simp only [Try.ntmps17, List.size_toArray, List.length_cons, List.length_nil, Nat.reduceAdd, Nat.reduceSub, Array.replicate_succ, Array.replicate_zero, List.push_toArray, List.append_toArray, List.nil_append, List.cons_append]
      gi_wp2
      refine ⟨.bool false, ?_, by rw [HV.out], HB0.out⟩
      simp [results, Try.f17, go_sem, cR]
    · have d2 : decide (16 < vars) = false := decide_eq_false h2
      by_cases h3 : 60 < l.length
      · have HV := Lib.hid (cntB_3 (vars := vars) l h3)
        generalize hrB vars l = V at HV ⊢
        have d3 : decide ((60 : Int) < (l.length : Int)) = true := by simp; omega
        refine callsIn_of_wp_marks Try.func17 rfl trivial ?_ rfl
        simp only [Try.ntmps17, List.size_toArray, List.length_cons, List.length_nil, Nat.reduceAdd, Nat.reduceSub, Array.replicate_succ, Array.replicate_zero, List.push_toArray, List.append_toArray, List.nil_append, List.cons_append]
        gi_wp2
        refine ⟨.bool false, ?_, by rw [HV.out], HB0.out⟩
        simp [results, Try.f17, go_sem, cR]
      · have HV := Lib.hid (cntB_ok (vars := vars) (l := l) (by omega) (by omega) (by omega))
        generalize hrB vars l = V at HV ⊢
        have d3 : decide ((60 : Int) < (l.length : Int)) = false := by simp; omega
        have HI := Lib.hid hin
        have HZ : Hid (((w.alloc (.cells #[.int .i64 vars] 3)).alloc (.cells #[.bool false] 4)).heap.size = w.heap.size + 1 + 1) := Lib.hid (by simp)
        clear hin cR
        refine callsIn_of_wp_marks Try.func17 rfl trivial ?_ rfl
        simp only [Try.ntmps17, List.size_toArray, List.length_cons, List.length_nil, Nat.reduceAdd, Nat.reduceSub, Array.replicate_succ, Array.replicate_zero, List.push_toArray, List.append_toArray, List.nil_append, List.cons_append]
        gi_wp2
        generalize (w.alloc (.cells #[.int .i64 vars] 3)).alloc (.cells #[.bool false] 4) = W0 at bV bR HB0 HZ ⊢
        gi_loopw [22] (fun i wr => ∃ k : Nat, i = .int .i64 k ∧ k ≤ l.length ∧ Hid ((l.take k).all frB = true) ∧ Below W0.heap.size W0 wr) (fun i _ => l.length - (intOf i).toNat)
        case atStart => exact ⟨0, rfl, Nat.zero_le _, Lib.hid rfl, Below.refl _ _⟩
        case round =>
          obtain ⟨k, rfl, hk, hfr, hb⟩ := hrel
          have hBw : Below w.heap.size w wr := Below.step HB0.out hb (Nat.le_refl _)
          by_cases hlt : k < l.length
          · obtain ⟨b, o, fr, tv, to, a', c', rfl, hbB, hget, e0, hat, e1, e2⟩ := (HI.out.below (hBw.mono hB)).at hlt
            have hfl := hat.len
            have bR2 := boxed_below bR hb (by have := HZ.out; omega)
            have HA : Hid (Below W0.heap.size W0 (wr.alloc (.cells #[.slice a' fr.length c', .int .i64 tv, .int .i64 to] 28))) := Lib.hid (hb.alloc hb.size _)
            have bR3 := bR2.alloc (.cells #[.slice a' fr.length c', .int .i64 tv, .int .i64 to] 28)
            have cR2 := bR3.cell
            have fR2 := bR3.frozen
            have HF3 := Lib.hid (bR3.set (.bool false)).cell
            have HB3 : Hid (Below w.heap.size w ((wr.alloc (.cells #[.slice a' fr.length c', .int .i64 tv, .int .i64 to] 28)).setCell ⟨w.heap.size + 1, 0, none⟩ (.bool false))) := Lib.hid ((Below.step HB0.out HA.out (Nat.le_refl _)).setCell (p := ⟨w.heap.size + 1, 0, none⟩) (Nat.le_succ _) _)
            have HE : Hid (frB (l.getD k cl0) = (decide (1 ≤ fr.length) && decide (fr.length ≤ 6))) := Lib.hid (by rw [hget]; rfl)
            clear hget hat bR2 bR3
            by_cases g1 : (fr.length : Int) < 1
            · have HF := Lib.hid (frB_no hlt (by rw [HE.out, decide_eq_false (p := 1 ≤ fr.length) (by omega)]; rfl))
              gi_wp2
              refine ⟨.bool false, ?_, by rw [HV.out, HF.out]; rfl, HB3.out⟩
              simp [results, Try.f17, go_sem, HF3.out]
            · have g1' : decide ((fr.length : Int) < 1) = false := decide_eq_false g1
              by_cases g2 : (6 : Int) < (fr.length : Int)
              · have HF := Lib.hid (frB_no hlt (by rw [HE.out, decide_eq_false (p := fr.length ≤ 6) (by omega), Bool.and_false]))
                have g2' : decide ((6 : Int) < (fr.length : Int)) = true := decide_eq_true g2
                gi_wp2
                refine ⟨.bool false, ?_, by rw [HV.out, HF.out]; rfl, HB3.out⟩
                simp [results, Try.f17, go_sem, HF3.out]
              · have g2' : decide ((6 : Int) < (fr.length : Int)) = false := decide_eq_false g2
                have HN := Lib.hid (frB_next hlt (by rw [HE.out, decide_eq_true (p := 1 ≤ fr.length) (by omega), decide_eq_true (p := fr.length ≤ 6) (by omega)]; rfl) hfr.out)
                clear cR2 fR2
                gi_wp2
                go_roundw
                case rel => exact ⟨k + 1, by go_num, by omega, HN, HA.out⟩
                case measure => simp [intOf]; omega
          · have HF : Hid (l.all frB = true) := Lib.hid (by have := hfr.out; rwa [List.take_of_length_le (by omega)] at this)
            have bV2 := boxed_below bV hb (by have := HZ.out; omega)
            have bR2 := boxed_below bR hb (by have := HZ.out; omega)
            have HC := Lib.hid (HI.out.below (hBw.mono hB))
            have HBW := Lib.hid hBw
            clear bV bR hb hBw
            gi_wp2_with (refine ⟨trivial, hdd _, ?_⟩; gi_at_call 27; refine (hatoms_in _ _ _ _ _).mono ?_; rintro e w' ⟨rfl, rfl⟩)
            have bN := Boxed.new wr 22 (.slice a l.length cap)
            have bV3 := bV2.alloc (.cells #[.slice a l.length cap] 22)
            have bR3 := bR2.alloc (.cells #[.slice a l.length cap] 22)
            have HC2 := Lib.hid (HC.out.keep (w' := wr.alloc (.cells #[.slice a l.length cap] 22)) (fun b hb => heap_old wr _ (by have := HBW.out.size; omega)))
            have HW2 := Lib.hid (HBW.out.alloc HBW.out.size (.cells #[.slice a l.length cap] 22))
            have HZ2 : Hid (wr.heap.size < (wr.alloc (.cells #[.slice a l.length cap] 22)).heap.size) := Lib.hid (by simp)
            generalize wr.alloc (.cells #[.slice a l.length cap] 22) = W2 at bN bV3 bR3 HC2 HW2 HZ2 ⊢
            have hws : w.heap.size ≤ W2.heap.size := HW2.out.size
            refine wpIn_rangeFunc_ownH rfl (by omega) (gf := 35) (lb := #[.pointer (some ⟨wr.heap.size, 0, none⟩)]) rfl trivial (enters_of Try.func35 (by kernel_rfl) rfl)
              (hatoms1_stops (n' - 1) (fun _ => False) l a cap B wr.heap.size W2 (Nat.le_trans hB hws) (fun _ h => h.elim) HC2.out bN.cell HZ2.out) (fun h k => KpO.trans h k) (KpO.put (Nat.le_trans hB hws)) (Below.refl _ _) (fun _ => rfl)
              (fun pre W => (Boxed W w.heap.size 3 (.int .i64 vars) ∧ Boxed W (w.heap.size + 1) 4 (.bool false) ∧ (elL pre).all (fun x => atB vars x.2) = true) ∧ Below w.heap.size w W)
              (fun c pre W => (c = .ret ∧ (elL pre).all (fun x => atB vars x.2) = false ∧ Boxed W (w.heap.size + 1) 4 (.bool false)) ∧ Below w.heap.size w W)
              (OwnFrom.and (OwnFrom.and (Own.from (boxed_own _ _ _) _) (OwnFrom.and (Own.from (boxed_own _ _ _) _) (ownFrom_pure _ _))) (ownFrom_below (Nat.le_refl _) hws))
              (fun c => OwnFrom.and (OwnFrom.and (ownFrom_pure _ _) (OwnFrom.and (ownFrom_pure _ _) (Own.from (boxed_own _ _ _) _))) (ownFrom_below (Nat.le_refl _) hws))
              ⟨⟨bV3, bR3, rfl⟩, HW2.out⟩
              (fun x a' W => ∃ Bx : Nat, W.heap[Bx]? = some (.cells #[.int .i64 x.1.1.2.1, .int .i64 x.1.1.2.2] 26 (0, 0)) ∧ a' = { tmps := #[.int .i64 vars, .slice a l.length cap, .pointer (some ⟨w.heap.size, 0, none⟩), undef, .pointer (some ⟨w.heap.size + 1, 0, none⟩), undef, u6, undef, .pointer (some ⟨Bx, 0, none⟩), .int .i64 vars, .bool false, .bool false, .int .i64 vars, .bool false, .bool false, .bool false, .slice a l.length cap, .int .i64 l.length, .bool false, .bool false, .slice a l.length cap, .int .i64 l.length, .int .i64 k, .bool false, u24, u25, u26, u27, u28, u29, u30, u31, u32, u33, u34, u35, u36, .slice a l.length cap, .func (.func 35) #[] #[.pointer (some ⟨wr.heap.size, 0, none⟩)], .agg #[.slice x.1.2.1 x.1.1.1.1.length x.1.2.2, .int .i64 x.1.1.1.2.1, .int .i64 x.1.1.1.2.2], .agg #[.int .i64 x.1.1.2.1, .int .i64 x.1.1.2.2], undef, undef, undef, undef], defers := [] })
              (fun x a' u W W' row hs hg hr => by
                obtain ⟨Bx, h1, h2⟩ := hs
                exact ⟨Bx, (hg.block Bx (lt_of_block h1) (fun e => by obtain ⟨_, o, ho, hc⟩ := hr Bx e.symm; rw [h1] at ho; cases ho; cases hc)).trans h1, h2⟩) ?assign ?body ?done ?stop
            case assign =>
              rintro lp pre ⟨⟨⟨⟨fr, tv, to⟩, xv, xo⟩, a', c'⟩, hm⟩ W K ⟨⟨i1, i2, i3⟩, i4⟩ hK
              dsimp only [elV] at hK ⊢
              gi_wp2
              exact hK _ _ ((KeepsOthers.alloc _ _).from _) (KpO.alloc _ _ (Nat.le_trans hB i4.size) _) ⟨⟨i1.alloc _, i2.alloc _, i3⟩, i4.alloc i4.size _⟩ ⟨W.heap.size, heap_new _ _, rfl⟩
            case body =>
              rintro lp pre ⟨⟨⟨⟨fr, tv, to⟩, xv, xo⟩, a', c'⟩, hm⟩ _ W hl _ ⟨⟨i1, i2, i3⟩, i4⟩ ⟨Bx, hBx, rfl⟩ hlt2
              have CF := Lib.hid (fun W => hfits_any (xv, xo) vars W)
              dsimp only at hBx ⊢
              have x0 := cell_at hBx 0
              have x1 := cell_at hBx 1
              simp at x0 x1
              have cV := i1.cell
              have hBW : B ≤ W.heap.size := Nat.le_trans hB i4.size
              have j2 := i2.alloc (.cells #[.int .i64 xv, .int .i64 xo] 26)
              have cR4 := j2.cell
              have fR4 := j2.frozen
              have J1 := Lib.hid (i1.alloc (.cells #[.int .i64 xv, .int .i64 xo] 26))
              have J2 := Lib.hid j2
              have J4 := Lib.hid (i4.alloc i4.size (.cells #[.int .i64 xv, .int .i64 xo] 26))
              have I3 := Lib.hid i3
              have HS : ∀ V, atB vars (xv, xo) = V → Hid ((elL (pre ++ [(⟨(((fr, (tv, to)), (xv, xo)), (a', c')), hm⟩ : El l)])).all (fun x => atB vars x.2) = V) := fun V hV => Lib.hid (by rw [elL_snoc, List.all_append, I3.out]; simpa using hV)
              have HS1 := Lib.hid (HS true)
              have HS2 := Lib.hid (HS false)
              clear i1 i2 i3 j2 HS
              generalize atB vars (xv, xo) = V2 at CF HS1 HS2
              cases V2 with
              | true =>
                have HT := HS1.out rfl
                gi_wp2_with (refine ⟨trivial, hdd _, ?_⟩; gi_at_call 28; refine (CallsIn.inRound lp (callsIn_wide.2 (CF.out _))).mono ?_; rintro e w' ⟨rfl, rfl⟩)
                exact ⟨(KeepsOthers.alloc _ _).from _, KpO.alloc _ _ hBW _, ⟨J1.out, J2.out, HT.out⟩, J4.out⟩
              | false =>
                have HT := HS2.out rfl
                gi_wp2_with (refine ⟨trivial, hdd _, ?_⟩; gi_at_call 28; refine (CallsIn.inRound lp (callsIn_wide.2 (CF.out _))).mono ?_; rintro e w' ⟨rfl, rfl⟩)
                exact ⟨((KeepsOthers.alloc _ _).trans (KeepsOthers.setCell _ _ _)).from _, ⟨rfl, HT.out, J2.out.set (.bool false)⟩, J4.out.setCell (p := ⟨w.heap.size + 1, 0, none⟩) (Nat.le_succ _) _⟩
            case done =>
              rintro D ys W hD hS ⟨⟨i1, i2, i3⟩, i4⟩ hK
              have cR5 := i2.cell
              have fR5 := i2.frozen
              have HI := Lib.hid i2
              rw [hS] at i3
              have HV2 : Hid (V = true) := Lib.hid (by rw [HV.out, HF.out, i3]; rfl)
              clear i1 i2 i3 hS
              gi_wp2
              have hK' := (KeepsOthers.setCell W ⟨w.heap.size + 1, 0, none⟩ (.bool true)).same D _ hK rfl
              refine ⟨by simp, .inl ⟨_, _, rfl, run_takeDeferred hK', ?_⟩⟩
              have hc5 := cell_kept (HI.out.set (.bool true)).cell (grownBy_putObj' _ D (.deferred none)) (fun r e => by cases e; exact ⟨_, hK', rfl⟩)
              refine ⟨.bool true, ?_, by rw [HV2.out], (i4.setCell (p := ⟨w.heap.size + 1, 0, none⟩) (Nat.le_succ _) _).trans (belowK_b (w := w) (Nat.le_refl _) _ D _ _ (by omega) hK' rfl rfl)⟩
              simp [results, Try.f17, go_sem, hc5]
            case stop =>
              rintro D c pre W hD hpre ⟨⟨rfl, i2, i3⟩, i4⟩ hK
              have HV2 : Hid (V = false) := Lib.hid (by
                rw [HV.out]
                obtain ⟨t, ht⟩ := hpre
                rw [← ht, List.all_append, i2, Bool.false_and, Bool.and_false])
              clear i2 hpre
              gi_wp2
              refine ⟨by simp, .inl ⟨_, _, rfl, run_takeDeferred hK, ?_⟩⟩
              have hc5 := cell_kept i3.cell (grownBy_putObj' _ D (.deferred none)) (fun r e => by cases e; exact ⟨_, hK, rfl⟩)
              refine ⟨.bool false, ?_, by rw [HV2.out], i4.trans (belowK_b (w := w) (Nat.le_refl _) W D _ _ (by omega) hK rfl rfl)⟩
              simp [results, Try.f17, go_sem, hc5]
theorem hRight_any (vars : Int) (l : List Cl) (a : Option Addr) (cap B : Nat) (w : World) (hin : ClsIn w (· < B) l a cap) (hB : B ≤ w.heap.size) :
    Calls Try.prog 17 #[.int .i64 vars, .slice a l.length cap] w fun e w' => e = .returned (.bool (hrB vars l)) ∧ Below w.heap.size w w' :=
  (callsIn_wide (n := 3)).1 (hRight_in 3 (Nat.le_refl _) vars l a cap B w hin hB)
end Go.Proofs.Ytnfmcenedohdnaa
