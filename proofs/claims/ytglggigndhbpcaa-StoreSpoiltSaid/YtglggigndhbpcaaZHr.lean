/- The contract of the program's Right of clauses: it tells whether they are right. Condition: the clauses lie in memory. -/
import Derived.Test.YtglggigndhbpcaaZHiter
import Derived.Test.YtglggigndhbpcaaZHs
import Derived.IntWalk
import Derived.Deep.QuietTactic
import Derived.BigQuiet
import Derived.Test.YtglggigndhbpcaaZBase
namespace Go.Proofs.Ytglggigndhbpcaa
open Go.RowKit Go.Shelf
attribute [local go_sem] Oper.semAt_some

theorem cntB_1 {vars : Int} (l : List Cl) (h : vars < 1) : hrB vars l = false := by simp [hrB, cntB]; intro h1; omega
theorem cntB_2 {vars : Int} (l : List Cl) (h : 16 < vars) : hrB vars l = false := by simp [hrB, cntB]; intro h1 h2; omega
theorem cntB_3 {vars : Int} (l : List Cl) (h : 60 < l.length) : hrB vars l = false := by simp [hrB, cntB]; intro h1 h2 h3; omega
theorem cntB_ok {vars : Int} {l : List Cl} (h1 : 1 ≤ vars) (h2 : vars ≤ 16) (h3 : l.length ≤ 60) : hrB vars l = (l.all frB && (pairs l).all (fun x => atB vars x.2)) := by
  rw [hrB_pairs]
  simp [hrB, cntB, h1, h2, h3]
theorem frB_no {l : List Cl} {k : Nat} (hk : k < l.length) (h : frB (l.getD k cl0) = false) : l.all frB = false := by
  cases e : l.all frB with
  | false => rfl
  | true => have := all_getD e cl0 hk; rw [h] at this; cases this
theorem frB_next {l : List Cl} {k : Nat} (hk : k < l.length) (h : frB (l.getD k cl0) = true) (hp : (l.take k).all frB = true) : (l.take (k + 1)).all frB = true := by
  rw [take_getD l cl0 hk, List.all_append, hp]
  simpa using h
theorem boxed_below {W W' : World} {B b : Nat} {t : TypeId} {v : Value} (h : Boxed W b t v) (hb : Below B W W') (hl : b < B) : Boxed W' b t v := (hb.block b hl).trans h

set_option maxRecDepth 100000 in
set_option maxHeartbeats 4000000 in
theorem hRight_in (n' : Nat) (hn : 3 ≤ n') (vars : Int) (l : List Cl) (a : Option Addr) (cap B : Nat) (w : World) (hin : ClsIn w (· < B) l a cap) (hB : B ≤ w.heap.size) :
    CallsIn Fence.wide n' Try.prog 30 #[.int .i64 vars, .slice a l.length cap] w fun e w' => e = .returned (.bool (hrB vars l)) ∧ Below w.heap.size w w' := by
  have hlen := hin.len
  have hdd : ∀ k : Nat, (Fence.wide.depth.isSome = true → 1 ≤ k) := fun k h => by cases h
  have bV := (Boxed.new w 3 (.int .i64 vars)).alloc (.cells #[.bool false] 4)
  have bR := Boxed.new (w.alloc (.cells #[.int .i64 vars] 3)) 4 (.bool false)
  rw [World.size_alloc] at bR
  have hB0 : Below w.heap.size w ((w.alloc (.cells #[.int .i64 vars] 3)).alloc (.cells #[.bool false] 4)) := ((Below.refl _ w).alloc (Nat.le_refl _) _).alloc (by simp) _
  have HB0 := Lib.hid hB0
  have cR := bR.cell
  clear hB0
  by_cases h1 : vars < 1
  · have HV := Lib.hid (cntB_1 l h1)
    generalize hrB vars l = V at HV ⊢
    have d1 : decide (vars < 1) = true := decide_eq_true h1
    refine callsIn_of_wp_marks Try.func30 rfl trivial ?_ rfl
    simp only [Try.ntmps30, List.size_toArray, List.length_cons, List.length_nil, Nat.reduceAdd, Nat.reduceSub, Array.replicate_succ, Array.replicate_zero, List.push_toArray, List.append_toArray, List.nil_append, List.cons_append]
    gi_wp2
    refine ⟨.bool false, ?_, by rw [HV.out], HB0.out⟩
    simp [results, Try.f30, go_sem, cR]
  · have d1 : decide (vars < 1) = false := decide_eq_false h1
    by_cases h2 : 16 < vars
    · have HV := Lib.hid (cntB_2 l h2)
      generalize hrB vars l = V at HV ⊢
      have d2 : decide (16 < vars) = true := decide_eq_true h2
      refine callsIn_of_wp_marks Try.func30 rfl trivial ?_ rfl
      simp only [Try.ntmps30, List.size_toArray, List.length_cons, List.length_nil, Nat.reduceAdd, Nat.reduceSub, Array.replicate_succ, Array.replicate_zero, List.push_toArray, List.append_toArray, List.nil_append, List.cons_append]
      gi_wp2
      refine ⟨.bool false, ?_, by rw [HV.out], HB0.out⟩
      simp [results, Try.f30, go_sem, cR]
    · have d2 : decide (16 < vars) = false := decide_eq_false h2
      by_cases h3 : 60 < l.length
      · have HV := Lib.hid (cntB_3 (vars := vars) l h3)
        generalize hrB vars l = V at HV ⊢
        have d3 : decide ((60 : Int) < (l.length : Int)) = true := by simp; omega
        refine callsIn_of_wp_marks Try.func30 rfl trivial ?_ rfl
        simp only [Try.ntmps30, List.size_toArray, List.length_cons, List.length_nil, Nat.reduceAdd, Nat.reduceSub, Array.replicate_succ, Array.replicate_zero, List.push_toArray, List.append_toArray, List.nil_append, List.cons_append]
        gi_wp2
        refine ⟨.bool false, ?_, by rw [HV.out], HB0.out⟩
        simp [results, Try.f30, go_sem, cR]
      · have HV := Lib.hid (cntB_ok (vars := vars) (l := l) (by omega) (by omega) (by omega))
        generalize hrB vars l = V at HV ⊢
        have d3 : decide ((60 : Int) < (l.length : Int)) = false := by simp; omega
        have HI := Lib.hid hin
        have HZ : Hid (((w.alloc (.cells #[.int .i64 vars] 3)).alloc (.cells #[.bool false] 4)).heap.size = w.heap.size + 1 + 1) := Lib.hid (by simp)
        clear hin cR
        refine callsIn_of_wp_marks Try.func30 rfl trivial ?_ rfl
        simp only [Try.ntmps30, List.size_toArray, List.length_cons, List.length_nil, Nat.reduceAdd, Nat.reduceSub, Array.replicate_succ, Array.replicate_zero, List.push_toArray, List.append_toArray, List.nil_append, List.cons_append]
        gi_wp2
        generalize (w.alloc (.cells #[.int .i64 vars] 3)).alloc (.cells #[.bool false] 4) = W0 at bV bR HB0 HZ ⊢
        gi_loopw [22] (fun i wr => ∃ k : Nat, i = .int .i64 k ∧ k ≤ l.length ∧ Hid ((l.take k).all frB = true) ∧ Below W0.heap.size W0 wr) (fun i _ => l.length - (intOf i).toNat)
        case atStart => exact ⟨0, rfl, Nat.zero_le _, Lib.hid rfl, Below.refl _ _⟩
        case round =>
          obtain ⟨k, rfl, hk, hfr, hb⟩ := hrel
          have hBw : Below w.heap.size w wr := Below.step HB0.out hb (Nat.le_refl _)
          by_cases hlt : k < l.length
          · obtain ⟨b, o, fr, tv, to, a', c', rfl, hbB, hget, e0, hat, e1, e2⟩ := (HI.out.below (hBw.mono hB)).at hlt
            have hfl := hat.len
            have bR2 := boxed_below bR hb (by have := HZ.out; omega)
            have HA : Hid (Below W0.heap.size W0 (wr.alloc (.cells #[.slice a' fr.length c', .int .i64 tv, .int .i64 to] 35))) := Lib.hid (hb.alloc hb.size _)
            have bR3 := bR2.alloc (.cells #[.slice a' fr.length c', .int .i64 tv, .int .i64 to] 35)
            have cR2 := bR3.cell
            have fR2 := bR3.frozen
            have HF3 := Lib.hid (bR3.set (.bool false)).cell
            have HB3 : Hid (Below w.heap.size w ((wr.alloc (.cells #[.slice a' fr.length c', .int .i64 tv, .int .i64 to] 35)).setCell ⟨w.heap.size + 1, 0, none⟩ (.bool false))) := Lib.hid ((Below.step HB0.out HA.out (Nat.le_refl _)).setCell (p := ⟨w.heap.size + 1, 0, none⟩) (Nat.le_succ _) _)
            have HE : Hid (frB (l.getD k cl0) = (decide (1 ≤ fr.length) && decide (fr.length ≤ 6))) := Lib.hid (by rw [hget]; rfl)
            clear hget hat bR2 bR3
            by_cases g1 : (fr.length : Int) < 1
            · have HF := Lib.hid (frB_no hlt (by rw [HE.out, decide_eq_false (p := 1 ≤ fr.length) (by omega)]; rfl))
              gi_wp2
              refine ⟨.bool false, ?_, by rw [HV.out, HF.out]; rfl, HB3.out⟩
              simp [results, Try.f30, go_sem, HF3.out]
            · have g1' : decide ((fr.length : Int) < 1) = false := decide_eq_false g1
              by_cases g2 : (6 : Int) < (fr.length : Int)
              · have HF := Lib.hid (frB_no hlt (by rw [HE.out, decide_eq_false (p := fr.length ≤ 6) (by omega), Bool.and_false]))
                have g2' : decide ((6 : Int) < (fr.length : Int)) = true := decide_eq_true g2
                gi_wp2
                refine ⟨.bool false, ?_, by rw [HV.out, HF.out]; rfl, HB3.out⟩
                simp [results, Try.f30, go_sem, HF3.out]
              · have g2' : decide ((6 : Int) < (fr.length : Int)) = false := decide_eq_false g2
                have HN := Lib.hid (frB_next hlt (by rw [HE.out, decide_eq_true (p := 1 ≤ fr.length) (by omega), decide_eq_true (p := fr.length ≤ 6) (by omega)]; rfl) hfr.out)
                clear cR2 fR2
                gi_wp2
                go_roundw
                case rel => exact ⟨k + 1, by go_num, by omega, HN, HA.out⟩
                case measure => simp [intOf]; omega
          · have HF : Hid (l.all frB = true) := Lib.hid (by have := hfr.out; rwa [List.take_of_length_le (by omega)] at this)
            have bV2 := boxed_below bV hb (by have := HZ.out; omega)
            have bR2 := boxed_below bR hb (by have := HZ.out; omega)
            have HC := Lib.hid (HI.out.below (hBw.mono hB))
            have HBW := Lib.hid hBw
            clear bV bR hb hBw
            gi_wp2_with (refine ⟨trivial, hdd _, ?_⟩; gi_at_call 47; refine (hatoms_in _ _ _ _ _).mono ?_; rintro e w' ⟨rfl, rfl⟩)
            have bN := Boxed.new wr 22 (.slice a l.length cap)
            have bV3 := bV2.alloc (.cells #[.slice a l.length cap] 22)
            have bR3 := bR2.alloc (.cells #[.slice a l.length cap] 22)
            have HC2 := Lib.hid (HC.out.keep (w' := wr.alloc (.cells #[.slice a l.length cap] 22)) (fun b hb => heap_old wr _ (by have := HBW.out.size; omega)))
            have HW2 := Lib.hid (HBW.out.alloc HBW.out.size (.cells #[.slice a l.length cap] 22))
            have HZ2 : Hid (wr.heap.size < (wr.alloc (.cells #[.slice a l.length cap] 22)).heap.size) := Lib.hid (by simp)
            generalize wr.alloc (.cells #[.slice a l.length cap] 22) = W2 at bN bV3 bR3 HC2 HW2 HZ2 ⊢
            have hws : w.heap.size ≤ W2.heap.size := HW2.out.size
            refine wpIn_rangeFunc_ownH rfl (by omega) (gf := 60) (lb := #[.pointer (some ⟨wr.heap.size, 0, none⟩)]) rfl trivial (enters_of Try.func60 (by kernel_rfl) rfl)
              (hatoms1_stops (n' - 1) (fun _ => False) l a cap B wr.heap.size W2 (Nat.le_trans hB hws) (fun _ h => h.elim) HC2.out bN.cell HZ2.out) (fun h k => KpO.trans h k) (KpO.put (Nat.le_trans hB hws)) (Below.refl _ _) (fun _ => rfl)
              (fun pre W => (Boxed W w.heap.size 3 (.int .i64 vars) ∧ Boxed W (w.heap.size + 1) 4 (.bool false) ∧ (elL pre).all (fun x => atB vars x.2) = true) ∧ Below w.heap.size w W)
              (fun c pre W => (c = .ret ∧ (elL pre).all (fun x => atB vars x.2) = false ∧ Boxed W (w.heap.size + 1) 4 (.bool false)) ∧ Below w.heap.size w W)
              (OwnFrom.and (OwnFrom.and (Own.from (boxed_own _ _ _) _) (OwnFrom.and (Own.from (boxed_own _ _ _) _) (ownFrom_pure _ _))) (ownFrom_below (Nat.le_refl _) hws))
              (fun c => OwnFrom.and (OwnFrom.and (ownFrom_pure _ _) (OwnFrom.and (ownFrom_pure _ _) (Own.from (boxed_own _ _ _) _))) (ownFrom_below (Nat.le_refl _) hws))
              ⟨⟨bV3, bR3, rfl⟩, HW2.out⟩
              (fun x a' W => ∃ Bx : Nat, W.heap[Bx]? = some (.cells #[.int .i64 x.1.1.2.1, .int .i64 x.1.1.2.2] 27 (0, 0)) ∧ a' = { tmps := #[.int .i64 vars, .slice a l.length cap, .pointer (some ⟨w.heap.size, 0, none⟩), undef, .pointer (some ⟨w.heap.size + 1, 0, none⟩), undef, u6, undef, .pointer (some ⟨Bx, 0, none⟩), .int .i64 vars, .bool false, .bool false, .int .i64 vars, .bool false, .bool false, .bool false, .slice a l.length cap, .int .i64 l.length, .bool false, .bool false, .slice a l.length cap, .int .i64 l.length, .int .i64 k, .bool false, u24, u25, u26, u27, u28, u29, u30, u31, u32, u33, u34, u35, u36, .slice a l.length cap, .func (.func 60) #[] #[.pointer (some ⟨wr.heap.size, 0, none⟩)], .agg #[.slice x.1.2.1 x.1.1.1.1.length x.1.2.2, .int .i64 x.1.1.1.2.1, .int .i64 x.1.1.1.2.2], .agg #[.int .i64 x.1.1.2.1, .int .i64 x.1.1.2.2], undef, undef, undef, undef], defers := [] })
              (fun x a' u W W' row hs hg hr => by
                obtain ⟨Bx, h1, h2⟩ := hs
                exact ⟨Bx, (hg.block Bx (lt_of_block h1) (fun e => by obtain ⟨_, o, ho, hc⟩ := hr Bx e.symm; rw [h1] at ho; cases ho; cases hc)).trans h1, h2⟩) ?assign ?body ?done ?stop
            case assign =>
              rintro lp pre ⟨⟨⟨⟨fr, tv, to⟩, xv, xo⟩, a', c'⟩, hm⟩ W K ⟨⟨i1, i2, i3⟩, i4⟩ hK
              dsimp only [elV] at hK ⊢
              gi_wp2
              exact hK _ _ ((KeepsOthers.alloc _ _).from _) (KpO.alloc _ _ (Nat.le_trans hB i4.size) _) ⟨⟨i1.alloc _, i2.alloc _, i3⟩, i4.alloc i4.size _⟩ ⟨W.heap.size, heap_new _ _, rfl⟩
            case body =>
              rintro lp pre ⟨⟨⟨⟨fr, tv, to⟩, xv, xo⟩, a', c'⟩, hm⟩ _ W hl _ ⟨⟨i1, i2, i3⟩, i4⟩ ⟨Bx, hBx, rfl⟩ hlt2
              have CF := Lib.hid (fun W => hfits_any (xv, xo) vars W)
              dsimp only at hBx ⊢
              have x0 := cell_at hBx 0
              have x1 := cell_at hBx 1
              simp at x0 x1
              have cV := i1.cell
              have hBW : B ≤ W.heap.size := Nat.le_trans hB i4.size
              have j2 := i2.alloc (.cells #[.int .i64 xv, .int .i64 xo] 27)
              have cR4 := j2.cell
              have fR4 := j2.frozen
              have J1 := Lib.hid (i1.alloc (.cells #[.int .i64 xv, .int .i64 xo] 27))
              have J2 := Lib.hid j2
              have J4 := Lib.hid (i4.alloc i4.size (.cells #[.int .i64 xv, .int .i64 xo] 27))
              have I3 := Lib.hid i3
              have HS : ∀ V, atB vars (xv, xo) = V → Hid ((elL (pre ++ [(⟨(((fr, (tv, to)), (xv, xo)), (a', c')), hm⟩ : El l)])).all (fun x => atB vars x.2) = V) := fun V hV => Lib.hid (by rw [elL_snoc, List.all_append, I3.out]; simpa using hV)
              have HS1 := Lib.hid (HS true)
              have HS2 := Lib.hid (HS false)
              clear i1 i2 i3 j2 HS
              generalize atB vars (xv, xo) = V2 at CF HS1 HS2
              cases V2 with
              | true =>
                have HT := HS1.out rfl
                gi_wp2_with (refine ⟨trivial, hdd _, ?_⟩; gi_at_call 48; refine (CallsIn.inRound lp (callsIn_wide.2 (CF.out _))).mono ?_; rintro e w' ⟨rfl, rfl⟩)
                exact ⟨(KeepsOthers.alloc _ _).from _, KpO.alloc _ _ hBW _, ⟨J1.out, J2.out, HT.out⟩, J4.out⟩
              | false =>
                have HT := HS2.out rfl
                gi_wp2_with (refine ⟨trivial, hdd _, ?_⟩; gi_at_call 48; refine (CallsIn.inRound lp (callsIn_wide.2 (CF.out _))).mono ?_; rintro e w' ⟨rfl, rfl⟩)
                exact ⟨((KeepsOthers.alloc _ _).trans (KeepsOthers.setCell _ _ _)).from _, ⟨rfl, HT.out, J2.out.set (.bool false)⟩, J4.out.setCell (p := ⟨w.heap.size + 1, 0, none⟩) (Nat.le_succ _) _⟩
            case done =>
              rintro D ys W hD hS ⟨⟨i1, i2, i3⟩, i4⟩ hK
              have cR5 := i2.cell
              have fR5 := i2.frozen
              have HI := Lib.hid i2
              rw [hS] at i3
              have HV2 : Hid (V = true) := Lib.hid (by rw [HV.out, HF.out, i3]; rfl)
              clear i1 i2 i3 hS
              gi_wp2
              have hK' := (KeepsOthers.setCell W ⟨w.heap.size + 1, 0, none⟩ (.bool true)).same D _ hK rfl
              refine ⟨by simp, .inl ⟨_, _, rfl, run_takeDeferred hK', ?_⟩⟩
              have hc5 := cell_kept (HI.out.set (.bool true)).cell (grownBy_putObj' _ D (.deferred none)) (fun r e => by cases e; exact ⟨_, hK', rfl⟩)
              refine ⟨.bool true, ?_, by rw [HV2.out], (i4.setCell (p := ⟨w.heap.size + 1, 0, none⟩) (Nat.le_succ _) _).trans (belowK_b (w := w) (Nat.le_refl _) _ D _ _ (by omega) hK' rfl rfl)⟩
              simp [results, Try.f30, go_sem, hc5]
            case stop =>
              rintro D c pre W hD hpre ⟨⟨rfl, i2, i3⟩, i4⟩ hK
              have HV2 : Hid (V = false) := Lib.hid (by
                rw [HV.out]
                obtain ⟨t, ht⟩ := hpre
                rw [← ht, List.all_append, i2, Bool.false_and, Bool.and_false])
              clear i2 hpre
              gi_wp2
              refine ⟨by simp, .inl ⟨_, _, rfl, run_takeDeferred hK, ?_⟩⟩
              have hc5 := cell_kept i3.cell (grownBy_putObj' _ D (.deferred none)) (fun r e => by cases e; exact ⟨_, hK, rfl⟩)
              refine ⟨.bool false, ?_, by rw [HV2.out], i4.trans (belowK_b (w := w) (Nat.le_refl _) W D _ _ (by omega) hK rfl rfl)⟩
              simp [results, Try.f30, go_sem, hc5]
theorem hRight_any (vars : Int) (l : List Cl) (a : Option Addr) (cap B : Nat) (w : World) (hin : ClsIn w (· < B) l a cap) (hB : B ≤ w.heap.size) :
    Calls Try.prog 30 #[.int .i64 vars, .slice a l.length cap] w fun e w' => e = .returned (.bool (hrB vars l)) ∧ Below w.heap.size w w' :=
  (callsIn_wide (n := 3)).1 (hRight_in 3 (Nat.le_refl _) vars l a cap B w hin hB)
end Go.Proofs.Ytglggigndhbpcaa
/- The contract of the document's own Right of clauses. Condition: the clauses lie in memory. -/
namespace Go.Proofs.Ytglggigndhbpcaa
open Go.RowKit

theorem clB_no {l : List Cl} {vars : Int} {k : Nat} (hk : k < l.length) (h : clB vars (l.getD k cl0) = false) : l.all (clB vars) = false := by
  cases e : l.all (clB vars) with
  | false => rfl
  | true => have := all_getD e cl0 hk; rw [h] at this; cases this
theorem clB_next {l : List Cl} {vars : Int} {k : Nat} (hk : k < l.length) (h : clB vars (l.getD k cl0) = true) (hp : (l.take k).all (clB vars) = true) : (l.take (k + 1)).all (clB vars) = true := by
  rw [take_getD l cl0 hk, List.all_append, hp]
  simpa using h
theorem atB_next {l : List At} {vars : Int} {k : Nat} (hk : k < l.length) (h : atB vars (l.getD k at0) = true) (hp : (l.take k).all (atB vars) = true) : (l.take (k + 1)).all (atB vars) = true := by
  rw [take_getD l at0 hk, List.all_append, hp]
  simpa using h
theorem atB_no {l : List At} {vars : Int} {k : Nat} (hk : k < l.length) (h : atB vars (l.getD k at0) = false) : l.all (atB vars) = false := by
  cases e : l.all (atB vars) with
  | false => rfl
  | true => have := all_getD e at0 hk; rw [h] at this; cases this
theorem cntB_all {vars : Int} {l : List Cl} (h1 : 1 ≤ vars) (h2 : vars ≤ 16) (h3 : l.length ≤ 60) : hrB vars l = l.all (clB vars) := by
  simp [hrB, cntB, h1, h2, h3]
theorem heap_cell_old (w : World) (o : Obj) {b i : Nat} {v : Value} (hb : b < w.heap.size) (h : w.cell? ⟨b, i, none⟩ = some v) : (w.alloc o).cell? ⟨b, i, none⟩ = some v := (World.cell?_of_block (w := w) (heap_old w o hb)).trans h
theorem clB_is {vars : Int} {fr : List At} {tv to : Int} : clB vars (fr, (tv, to)) = (atB vars (tv, to) && ((decide (1 ≤ fr.length) && decide (fr.length ≤ 6)) && fr.all (atB vars))) := rfl

set_option maxRecDepth 100000 in
set_option maxHeartbeats 4000000 in
theorem r8Right_any (vars : Int) (l : List Cl) (a : Option Addr) (cap B : Nat) (w : World) (hin : ClsIn w (· < B) l a cap) (hB : B ≤ w.heap.size) :
    Calls Try.prog 36 #[.int .i64 vars, .slice a l.length cap] w fun e w' => e = .returned (.bool (hrB vars l)) ∧ Below w.heap.size w w' := by
  have hlen := hin.len
  by_cases h1 : vars < 1
  · have HV := Lib.hid (cntB_1 l h1)
    generalize hrB vars l = V at HV ⊢
    have d1 : decide (vars < 1) = true := decide_eq_true h1
    go_enter Try.func36, Try.ntmps36
    go_wp2_with fail
    go_ret
    exact ⟨by rw [HV.out]; rfl, Below.refl _ _⟩
  · have d1 : decide (vars < 1) = false := decide_eq_false h1
    by_cases h2 : 16 < vars
    · have HV := Lib.hid (cntB_2 l h2)
      generalize hrB vars l = V at HV ⊢
      have d2 : decide (16 < vars) = true := decide_eq_true h2
      go_enter Try.func36, Try.ntmps36
      go_wp2_with fail
      go_ret
      exact ⟨by rw [HV.out]; rfl, Below.refl _ _⟩
    · have d2 : decide (16 < vars) = false := decide_eq_false h2
      by_cases h3 : 60 < l.length
      · have HV := Lib.hid (cntB_3 (vars := vars) l h3)
        generalize hrB vars l = V at HV ⊢
        have d3 : decide ((60 : Int) < (l.length : Int)) = true := by simp; omega
        go_enter Try.func36, Try.ntmps36
        go_wp2_with fail
        go_ret
        exact ⟨by rw [HV.out]; rfl, Below.refl _ _⟩
      · have HV := Lib.hid (cntB_all (vars := vars) (l := l) (by omega) (by omega) (by omega))
        generalize hrB vars l = V at HV ⊢
        have d3 : decide ((60 : Int) < (l.length : Int)) = false := by simp; omega
        have HI := Lib.hid hin
        clear hin
        go_enter Try.func36, Try.ntmps36
        go_wp2_with fail
        go_loopw [5] (fun i wr => ∃ k : Nat, i = .int .i64 k ∧ k ≤ l.length ∧ Hid ((l.take k).all (clB vars) = true) ∧ Below w.heap.size w wr) (fun i _ => l.length - (intOf i).toNat)
        case atStart => exact ⟨0, rfl, Nat.zero_le _, Lib.hid rfl, Below.refl _ _⟩
        case round =>
          obtain ⟨k, rfl, hk, hfr, hb⟩ := hrel
          by_cases hlt : k < l.length
          · obtain ⟨b, o, fr, tv, to, a', c', rfl, hbB, hget, e0, hat, e1, e2⟩ := (HI.out.below (hb.mono hB)).at hlt
            have hfl := hat.len
            have hbl : b < wr.heap.size := by have := hb.size; omega
            have CF := Lib.hid (fun x W => r8atom_any x vars W)
            have HAT := Lib.hid hat
            have HG := Lib.hid hget
            have c0 := heap_cell_old wr (.cells #[.int .i64 tv, .int .i64 to] 27) hbl e0
            have HBA := Lib.hid (hb.alloc hb.size (.cells #[.int .i64 tv, .int .i64 to] 27))
            have hbl2 : b < (wr.alloc (.cells #[.int .i64 tv, .int .i64 to] 27)).heap.size := by simp; omega
            have CF1 : Hid (∀ W, Calls Try.prog 52 #[.agg #[.int .i64 tv, .int .i64 to], .int .i64 vars] W fun e w' => e = .returned (.bool (atB vars (tv, to))) ∧ w' = W.alloc (.cells #[.int .i64 tv, .int .i64 to] 27)) := Lib.hid (fun W => CF.out (tv, to) W)
            have HT : Hid (∀ V, atB vars (tv, to) = V → clB vars (l.getD k cl0) = (V && ((decide (1 ≤ fr.length) && decide (fr.length ≤ 6)) && fr.all (atB vars)))) := Lib.hid (fun V hV => by rw [HG.out, clB_is, hV])
            clear hget hat
            generalize atB vars (tv, to) = V1 at CF1 HT
            cases V1 with
            | false =>
              have HF := Lib.hid (clB_no hlt (by rw [HT.out false rfl]; rfl))
              go_wp2_with (go_at_call 52; refine (CF1.out _).mono ?_; rintro e w' ⟨rfl, rfl⟩)
              go_ret
              exact ⟨by rw [HV.out, HF.out]; rfl, HBA.out⟩
            | true =>
              by_cases g1 : (fr.length : Int) < 1
              · have HF := Lib.hid (clB_no hlt (by rw [HT.out true rfl, decide_eq_false (p := 1 ≤ fr.length) (by omega)]; rfl))
                go_wp2_with (go_at_call 52; refine (CF1.out _).mono ?_; rintro e w' ⟨rfl, rfl⟩)
                go_ret
                exact ⟨by rw [HV.out, HF.out]; rfl, HBA.out⟩
              · have g1' : decide ((fr.length : Int) < 1) = false := decide_eq_false g1
                by_cases g2 : (6 : Int) < (fr.length : Int)
                · have HF := Lib.hid (clB_no hlt (by rw [HT.out true rfl, decide_eq_false (p := fr.length ≤ 6) (by omega), Bool.and_false]; rfl))
                  have g2' : decide ((6 : Int) < (fr.length : Int)) = true := decide_eq_true g2
                  go_wp2_with (go_at_call 52; refine (CF1.out _).mono ?_; rintro e w' ⟨rfl, rfl⟩)
                  go_ret
                  exact ⟨by rw [HV.out, HF.out]; rfl, HBA.out⟩
                · have g2' : decide ((6 : Int) < (fr.length : Int)) = false := decide_eq_false g2
                  have HC1 : Hid (clB vars (l.getD k cl0) = fr.all (atB vars)) := Lib.hid (by rw [HT.out true rfl, decide_eq_true (p := 1 ≤ fr.length) (by omega), decide_eq_true (p := fr.length ≤ 6) (by omega)]; rfl)
                  have HE0 := Lib.hid e0
                  obtain ⟨W0, rfl⟩ : ∃ W0, W0 = wr := ⟨_, rfl⟩
                  go_wp2_with (go_at_call 52; refine (CF1.out _).mono ?_; rintro e w' ⟨rfl, rfl⟩)
                  clear c0 e0 e1 e2
                  go_loopw [6] (fun i wr => ∃ q : Nat, i = .int .i64 q ∧ q ≤ fr.length ∧ Hid ((fr.take q).all (atB vars) = true) ∧ Below W0.heap.size W0 wr) (fun i _ => fr.length - (intOf i).toNat)
                  case atStart => exact ⟨0, rfl, Nat.zero_le _, Lib.hid rfl, (Below.refl _ _).alloc (Nat.le_refl _) _⟩
                  case round =>
                    obtain ⟨q, rfl, hq, hfq, hb2⟩ := hrel
                    have e0 := (bcell hb2 b (o + k * 3) hbl).trans HE0.out
                    by_cases hql : q < fr.length
                    · obtain ⟨g, p, xv, xo, rfl, hgB, hgx, x0, x1⟩ := (HAT.out.below (hb2.mono (Nat.le_trans hB hb.size))).at hql
                      have HX := Lib.hid hgx
                      have CF2 : Hid (∀ W, Calls Try.prog 52 #[.agg #[.int .i64 xv, .int .i64 xo], .int .i64 vars] W fun e w' => e = .returned (.bool (atB vars (xv, xo))) ∧ w' = W.alloc (.cells #[.int .i64 xv, .int .i64 xo] 27)) := Lib.hid (fun W => CF.out (xv, xo) W)
                      have HT2 : Hid (∀ V, atB vars (xv, xo) = V → atB vars (fr.getD q at0) = V) := Lib.hid (fun V hV => by rw [HX.out, hV])
                      have HB2 := Lib.hid (hb2.alloc hb2.size (.cells #[.int .i64 xv, .int .i64 xo] 27))
                      clear hgx
                      generalize atB vars (xv, xo) = V2 at CF2 HT2
                      cases V2 with
                      | false =>
                        have HF := Lib.hid (clB_no (vars := vars) hlt (by rw [HC1.out, atB_no hql (HT2.out false rfl)]))
                        go_wp2_with (go_at_call 52; refine (CF2.out _).mono ?_; rintro e w' ⟨rfl, rfl⟩)
                        go_ret
                        exact ⟨by rw [HV.out, HF.out]; rfl, Below.step hb HB2.out (Nat.le_refl _)⟩
                      | true =>
                        have HN := Lib.hid (atB_next hql (HT2.out true rfl) hfq.out)
                        go_wp2_with (go_at_call 52; refine (CF2.out _).mono ?_; rintro e w' ⟨rfl, rfl⟩)
                        go_roundw
                        case rel => exact ⟨q + 1, by go_num, by omega, HN, HB2.out⟩
                        case measure => simp [intOf]; omega
                    · have HN := Lib.hid (clB_next hlt (by rw [HC1.out]; have := hfq.out; rwa [List.take_of_length_le (by omega)] at this) hfr.out)
                      have HB2 := Lib.hid (Below.step hb hb2 (Nat.le_refl _))
                      go_wp2_with fail
                      go_roundw
                      case rel => exact ⟨k + 1, by go_num, by omega, HN, HB2.out⟩
                      case measure => simp [intOf]; omega
          · have HF : Hid (l.all (clB vars) = true) := Lib.hid (by have := hfr.out; rwa [List.take_of_length_le (by omega)] at this)
            go_wp2_with fail
            go_ret
            exact ⟨by rw [HV.out, HF.out]; rfl, hb⟩
end Go.Proofs.Ytglggigndhbpcaa
/- The contract of the program's Most: the most that a clause adds, or the refusal. Condition: the clauses lie in memory. -/
namespace Go.Proofs.Ytglggigndhbpcaa
open Go.RowKit Go.Shelf
attribute [local go_sem] Oper.semAt_some

def mostE (vars : Int) (l : List Cl) : Int := if hrB vars l = true then 0 else 1
def mostV (vars : Int) (l : List Cl) : Int := if hrB vars l = true then mostD 0 l else 0
theorem pairs_ok {vars : Int} {l : List Cl} (h : l.all (clB vars) = true) : ∀ x ∈ pairs l, atB vars x.1.2 = true ∧ atB vars x.2 = true := fun ⟨c, a⟩ hx => by
  obtain ⟨h1, h2⟩ := pairs_mem.1 hx
  obtain ⟨a1, _, a3⟩ := clB_of (List.all_eq_true.1 h c h1)
  refine ⟨a1, ?_⟩
  rcases h2 with h2 | h2
  · exact List.all_eq_true.1 a3 a h2
  · show atB vars a = true; rw [h2]; exact a1
theorem elL_in {l : List Cl} (pre : List (El l)) : ∀ x ∈ elL pre, x ∈ pairs l := fun x hx => by
  obtain ⟨y, _, rfl⟩ := List.mem_map.1 hx
  exact y.2

set_option maxRecDepth 100000 in
set_option maxHeartbeats 4000000 in
theorem hMost_in (n' : Nat) (hn : 3 ≤ n') (vars : Int) (l : List Cl) (a : Option Addr) (cap B : Nat) (w : World) (hin : ClsIn w (· < B) l a cap) (hB : B ≤ w.heap.size) :
    CallsIn Fence.wide n' Try.prog 67 #[.int .i64 vars, .slice a l.length cap] w fun e w' => e = .returned (.tuple #[.int .i64 (mostV vars l), .int .i64 (mostE vars l)]) ∧ Below w.heap.size w w' := by
  have hdd : ∀ k : Nat, (Fence.wide.depth.isSome = true → 1 ≤ k) := fun k h => by cases h
  have CR := Lib.hid (hRight_any vars l a cap B w hin hB)
  have HI := Lib.hid hin
  have HN : Hid (hrB vars l = false → mostV vars l = 0 ∧ mostE vars l = 1) := Lib.hid (fun h => by simp [mostV, mostE, h])
  have HY : Hid (hrB vars l = true → mostV vars l = mostD 0 l ∧ mostE vars l = 0) := Lib.hid (fun h => by simp [mostV, mostE, h])
  have HC : Hid (hrB vars l = true → l.all (clB vars) = true) := Lib.hid (fun h => (hrB_of h).2.2.2)
  generalize mostV vars l = V at HN HY ⊢
  generalize mostE vars l = E at HN HY ⊢
  clear hin
  cases hr : hrB vars l with
  | false =>
    obtain ⟨rfl, rfl⟩ := HN.out hr
    rw [hr] at CR
    clear hr HN HY HC
    refine callsIn_of_wp_marks Try.func67 rfl trivial ?_ rfl
    simp only [Try.ntmps67, List.size_toArray, List.length_cons, List.length_nil, Nat.reduceAdd, Nat.reduceSub, Array.replicate_succ, Array.replicate_zero, List.push_toArray, List.append_toArray, List.nil_append, List.cons_append]
    gi_wp2_with (refine ⟨trivial, hdd _, ?_⟩; gi_at_call 30; refine (callsIn_wide.2 CR.out).mono ?_; rintro e w1 ⟨rfl, hb1⟩)
    refine ⟨.tuple #[.int .i64 0, .int .i64 1], ?_, rfl, hb1⟩
    simp [results, Try.f67, go_sem]
  | true =>
    obtain ⟨rfl, rfl⟩ := HY.out hr
    rw [hr] at CR
    have HC1 := Lib.hid (HC.out hr)
    clear hr HN HY HC
    refine callsIn_of_wp_marks Try.func67 rfl trivial ?_ rfl
    simp only [Try.ntmps67, List.size_toArray, List.length_cons, List.length_nil, Nat.reduceAdd, Nat.reduceSub, Array.replicate_succ, Array.replicate_zero, List.push_toArray, List.append_toArray, List.nil_append, List.cons_append]
    gi_wp2_with (first | (refine ⟨trivial, hdd _, ?_⟩; gi_at_call 30; refine (callsIn_wide.2 CR.out).mono ?_; rintro e w1 ⟨rfl, hb1⟩) | (refine ⟨trivial, hdd _, ?_⟩; gi_at_call 47; refine (hatoms_in _ _ _ _ _).mono ?_; rintro e w' ⟨rfl, rfl⟩))
    have bO := (Boxed.new w1 3 (.int .i64 0)).alloc (.cells #[.slice a l.length cap] 22)
    have bN := Boxed.new (w1.alloc (.cells #[.int .i64 0] 3)) 22 (.slice a l.length cap)
    rw [World.size_alloc] at bN
    have hB2 : Below w.heap.size w ((w1.alloc (.cells #[.int .i64 0] 3)).alloc (.cells #[.slice a l.length cap] 22)) := (hb1.alloc hb1.size _).alloc (by have := hb1.size; simp; omega) _
    have hz : ((w1.alloc (.cells #[.int .i64 0] 3)).alloc (.cells #[.slice a l.length cap] 22)).heap.size = w1.heap.size + 1 + 1 := by simp
    have hz1 := hb1.size
    generalize (w1.alloc (.cells #[.int .i64 0] 3)).alloc (.cells #[.slice a l.length cap] 22) = W2 at bO bN hB2 hz ⊢
    have hws : w.heap.size ≤ W2.heap.size := hB2.size
    have hok := pairs_ok HC1.out
    refine wpIn_rangeFunc_ownH rfl (by omega) (gf := 60) (lb := #[.pointer (some ⟨w1.heap.size + 1, 0, none⟩)]) rfl trivial (enters_of Try.func60 (by kernel_rfl) rfl)
      (hatoms1_stops (n' - 1) (fun b => b = w1.heap.size) l a cap B (w1.heap.size + 1) W2 (Nat.le_trans hB hws) (fun b h => by omega) (HI.out.below (hB2.mono hB)) bN.cell (by omega)) (fun h k => KpO.trans h k) (KpO.put (Nat.le_trans hB hws)) (Below.refl _ _) (fun _ => rfl)
      (fun pre W => Boxed W w1.heap.size 3 (.int .i64 (mostP 0 (elL pre))) ∧ Below w.heap.size w W)
      (fun _ _ _ => False)
      (OwnFrom.and (Own.from (boxed_own _ _ _) _) (ownFrom_below (Nat.le_refl _) hws))
      (fun _ _ _ _ _ hs _ _ => hs)
      ⟨bO, hB2⟩
      (fun x a' W => ∃ Bx By : Nat, W.heap[Bx]? = some (.cells #[.slice x.1.2.1 x.1.1.1.1.length x.1.2.2, .int .i64 x.1.1.1.2.1, .int .i64 x.1.1.1.2.2] 35 (0, 0)) ∧ W.heap[By]? = some (.cells #[.int .i64 x.1.1.2.1, .int .i64 x.1.1.2.2] 27 (0, 0)) ∧ a' = { tmps := #[.int .i64 vars, .slice a l.length cap, undef, undef, .int .i64 0, .int .i64 0, .pointer (some ⟨w1.heap.size, 0, none⟩), .pointer (some ⟨Bx, 0, none⟩), .pointer (some ⟨By, 0, none⟩), .int .i64 vars, .slice a l.length cap, .bool true, .bool false, .slice a l.length cap, .func (.func 60) #[] #[.pointer (some ⟨w1.heap.size + 1, 0, none⟩)], .agg #[.slice x.1.2.1 x.1.1.1.1.length x.1.2.2, .int .i64 x.1.1.1.2.1, .int .i64 x.1.1.1.2.2], .agg #[.int .i64 x.1.1.2.1, .int .i64 x.1.1.2.2], undef, undef, undef, undef, undef, undef, undef, undef, undef], defers := [] })
      (fun x a' u W W' row hs hg hr => by
        obtain ⟨Bx, By, h1, h3, h2⟩ := hs
        have keep : ∀ {b : Nat} {cs : Array Value} {t : TypeId}, W.heap[b]? = some (.cells cs t (0, 0)) → W'.heap[b]? = some (.cells cs t (0, 0)) := fun h1 => (hg.block _ (lt_of_block h1) (fun e => by obtain ⟨_, o, ho, hc⟩ := hr _ e.symm; rw [h1] at ho; cases ho; cases hc)).trans h1
        exact ⟨Bx, By, keep h1, keep h3, h2⟩) ?assign ?body ?done ?stop
    case assign =>
      rintro lp pre ⟨⟨⟨⟨fr, tv, to⟩, xv, xo⟩, a', c'⟩, hm⟩ W K ⟨i1, i4⟩ hK
      dsimp only [elV] at hK ⊢
      gi_wp2
      refine hK _ _ (((KeepsOthers.alloc _ _).trans (KeepsOthers.alloc _ _)).from _) (KpO.trans (KpO.alloc _ _ (Nat.le_trans hB i4.size) _) (KpO.alloc _ _ (by have := i4.size; simp; omega) _)) ⟨(i1.alloc _).alloc _, (i4.alloc i4.size _).alloc (by have := i4.size; simp; omega) _⟩ ⟨W.heap.size, W.heap.size + 1, (heap_old _ _ (by simp)).trans (heap_new _ _), heap_second _ _ _, rfl⟩
    case body =>
      rintro lp pre ⟨⟨⟨⟨fr, tv, to⟩, xv, xo⟩, a', c'⟩, hm⟩ _ W hl _ ⟨i1, i4⟩ ⟨Bx, By, hBx, hBy, rfl⟩ hlt2
      dsimp only at hBx hBy ⊢
      have x1 := cell_at hBx 2
      have y1 := cell_at hBy 1
      simp at x1 y1
      have hx := hok _ hm
      obtain ⟨q1, q2, q3, q4⟩ := atB_of hx.1
      obtain ⟨p1, p2, p3, p4⟩ := atB_of hx.2
      simp only at q1 q2 q3 q4 p1 p2 p3 p4
      have hbd := mostP_bd (vars := vars) (elL pre) 0 (fun y hy => hok y (elL_in pre y hy)) (by omega) (by omega)
      have HSN : Hid (mostP 0 (elL (pre ++ [(⟨(((fr, (tv, to)), (xv, xo)), (a', c')), hm⟩ : El l)])) = max (mostP 0 (elL pre)) (to - xo)) := Lib.hid (by rw [elL_snoc, mostP_snoc])
      have cO := i1.cell
      have fO := i1.frozen
      have HI1 := Lib.hid i1
      generalize mostP 0 (elL pre) = s at hbd HSN cO HI1
      obtain ⟨s0, s1⟩ := hbd
      clear i1 hx
      by_cases hmx : s < to - xo
      · have HM : Hid (max s (to - xo) = to - xo) := Lib.hid (by omega)
        gi_wp2
        exact ⟨(KeepsOthers.setCell _ _ _).from _, KpO.set _ _ _ _ rfl (by omega), by rw [HSN.out, HM.out]; exact HI1.out.set _, i4.setCell (p := ⟨w1.heap.size, 0, none⟩) hz1 _⟩
      · have HM : Hid (max s (to - xo) = s) := Lib.hid (by omega)
        gi_wp2
        exact ⟨(KeepsOthers.setCell _ _ _).from _, KpO.set _ _ _ _ rfl (by omega), by rw [HSN.out, HM.out]; exact HI1.out.set _, i4.setCell (p := ⟨w1.heap.size, 0, none⟩) hz1 _⟩
    case done =>
      rintro D ys W hD hS ⟨i1, i4⟩ hK
      have c6 := i1.cell
      have HV : Hid (mostP 0 (elL ys) = mostD 0 l) := Lib.hid (by rw [hS, mostP_pairs l 0 (Int.le_refl _)])
      generalize mostP 0 (elL ys) = V at c6 HV
      clear i1 hS
      gi_wp2
      refine ⟨by simp, .inl ⟨_, _, rfl, run_takeDeferred hK, ?_⟩⟩
      refine ⟨.tuple #[.int .i64 V, .int .i64 0], ?_, by rw [HV.out], i4.trans (belowK_b (w := w) (Nat.le_refl _) W D _ _ (by omega) hK rfl rfl)⟩
      simp [results, Try.f67, go_sem]
    case stop =>
      rintro D c pre W _ _ h _
      exact h.elim
theorem hMost_any (vars : Int) (l : List Cl) (a : Option Addr) (cap B : Nat) (w : World) (hin : ClsIn w (· < B) l a cap) (hB : B ≤ w.heap.size) :
    Calls Try.prog 67 #[.int .i64 vars, .slice a l.length cap] w fun e w' => e = .returned (.tuple #[.int .i64 (mostV vars l), .int .i64 (mostE vars l)]) ∧ Below w.heap.size w w' :=
  (callsIn_wide (n := 3)).1 (hMost_in 3 (Nat.le_refl _) vars l a cap B w hin hB)
end Go.Proofs.Ytglggigndhbpcaa
/- The contract of the document's own Most: the most that a clause adds, or the refusal. Condition: the clauses lie in memory. -/
namespace Go.Proofs.Ytglggigndhbpcaa
open Go.RowKit

theorem mostF_take {s : Int} {c : Cl} {l : List At} {k : Nat} (hk : k < l.length) : mostF s c (l.take (k + 1)) = max (mostF s c (l.take k)) (c.2.2 - (l.getD k at0).2) := by rw [take_getD l at0 hk, mostF_snoc]
theorem mostD_take {s : Int} {l : List Cl} {k : Nat} (hk : k < l.length) : mostD s (l.take (k + 1)) = mostF (mostD s (l.take k)) (l.getD k cl0) (l.getD k cl0).1 := by rw [take_getD l cl0 hk, mostD_snoc]

set_option maxRecDepth 100000 in
set_option maxHeartbeats 8000000 in
theorem r8Most_any (vars : Int) (l : List Cl) (a : Option Addr) (cap B : Nat) (w : World) (hin : ClsIn w (· < B) l a cap) (hB : B ≤ w.heap.size) :
    Calls Try.prog 65 #[.int .i64 vars, .slice a l.length cap] w fun e w' => e = .returned (.tuple #[.int .i64 (mostV vars l), .int .i64 (mostE vars l)]) ∧ Below w.heap.size w w' := by
  have hlen := hin.len
  have CR := Lib.hid (r8Right_any vars l a cap B w hin hB)
  have HI := Lib.hid hin
  have HN : Hid (hrB vars l = false → mostV vars l = 0 ∧ mostE vars l = 1) := Lib.hid (fun h => by simp [mostV, mostE, h])
  have HY : Hid (hrB vars l = true → mostV vars l = mostD 0 l ∧ mostE vars l = 0) := Lib.hid (fun h => by simp [mostV, mostE, h])
  have HC : Hid (hrB vars l = true → l.all (clB vars) = true) := Lib.hid (fun h => (hrB_of h).2.2.2)
  generalize mostV vars l = V at HN HY ⊢
  generalize mostE vars l = E at HN HY ⊢
  clear hin
  cases hr : hrB vars l with
  | false =>
    obtain ⟨rfl, rfl⟩ := HN.out hr
    rw [hr] at CR
    clear hr HN HY HC
    go_enter Try.func65, Try.ntmps65
    go_wp2_with (go_at_call 36; refine CR.out.mono ?_; rintro e w1 ⟨rfl, hb1⟩)
    go_ret2
    exact ⟨rfl, hb1⟩
  | true =>
    have HV := Lib.hid (HY.out hr).1
    obtain rfl := (HY.out hr).2
    rw [hr] at CR
    have HC1 := Lib.hid (HC.out hr)
    clear hr HN HY HC
    go_enter Try.func65, Try.ntmps65
    go_wp2_with (go_at_call 36; refine CR.out.mono ?_; rintro e w1 ⟨rfl, hb1⟩)
    go_loopw [6, 7] (fun nv iv wr => ∃ (k : Nat) (n : Int), nv = .int .i64 n ∧ iv = .int .i64 k ∧ k ≤ l.length ∧ 0 ≤ n ∧ n ≤ 1000 ∧ Hid (n = mostD 0 (l.take k)) ∧ Below w.heap.size w wr) (fun _ iv _ => l.length - (intOf iv).toNat)
    case atStart => exact ⟨0, 0, rfl, rfl, Nat.zero_le _, by omega, by omega, Lib.hid rfl, hb1⟩
    case round =>
      obtain ⟨k, n, rfl, rfl, hk, hn0, hn1, hn, hb⟩ := hrel
      by_cases hlt : k < l.length
      · obtain ⟨b, o, fr, tv, to, a', c', rfl, hbB, hget, e0, hat, e1, e2⟩ := (HI.out.below (hb.mono hB)).at hlt
        have hfl := hat.len
        have hcl := all_getD HC1.out cl0 hlt
        rw [hget] at hcl
        obtain ⟨a1, a2, a3⟩ := clB_of hcl
        have HA3 := Lib.hid a3
        obtain ⟨q1, q2, q3, q4⟩ := atB_of a1
        simp only at q1 q2 q3 q4
        have HG := Lib.hid hget
        have HAT := Lib.hid hat
        have HE0 := Lib.hid e0
        have HE2 := Lib.hid e2
        have hbl : b < wr.heap.size := by have := hb.size; omega
        obtain ⟨W0, rfl⟩ : ∃ W0, W0 = wr := ⟨_, rfl⟩
        have hk0 : (0 : Int) ≤ (k : Int) := by omega
        have hkl : (k : Int) < (l.length : Int) := by omega
        clear hget hat hcl a1 a2 a3 e1 e2
        go_wp2_with fail
        clear e0
        go_loopw [6, 8] (fun nv iv wr => ∃ (q : Nat) (n : Int), nv = .int .i64 n ∧ iv = .int .i64 q ∧ q ≤ fr.length ∧ 0 ≤ n ∧ n ≤ 1000 ∧ Hid (n = mostF (mostD 0 (l.take k)) (fr, (tv, to)) (fr.take q)) ∧ Below W0.heap.size W0 wr) (fun _ iv _ => fr.length - (intOf iv).toNat)
        case atStart => exact ⟨0, n, rfl, rfl, Nat.zero_le _, hn0, hn1, Lib.hid hn.out, Below.refl _ _⟩
        case round =>
          obtain ⟨q, s, rfl, rfl, hq, hs0, hs1, hs, hb2⟩ := hrel
          have e0 := (bcell hb2 b (o + k * 3) hbl).trans HE0.out
          have e2 := (bcell hb2 b (o + k * 3 + 2) hbl).trans HE2.out
          by_cases hql : q < fr.length
          · obtain ⟨g, p, xv, xo, rfl, hgB, hgx, x0, x1⟩ := (HAT.out.below (hb2.mono (Nat.le_trans hB hb.size))).at hql
            have hat := all_getD HA3.out at0 hql
            rw [hgx] at hat
            obtain ⟨r1, r2, r3, r4⟩ := atB_of hat
            simp only at r1 r2 r3 r4
            have HN := Lib.hid (mostF_take (s := mostD 0 (l.take k)) (c := (fr, (tv, to))) hql)
            have HX := Lib.hid hgx
            have hw1 : IntKind.i64.wrap (to - xo) = to - xo := IntWalk.i64_in _ (by omega)
            have hq0 : (0 : Int) ≤ (q : Int) := by omega
            have hql' : (q : Int) < (fr.length : Int) := by omega
            clear hgx hat
            by_cases hmx : s < to - xo
            · have HS : Hid (to - xo = mostF (mostD 0 (l.take k)) (fr, (tv, to)) (fr.take (q + 1))) := Lib.hid (by rw [HN.out, ← hs.out, HX.out]; show _ = max s (to - xo); omega)
              go_wp2_with fail
              go_quiet (fail)
              go_wp2_with fail
              go_roundw
              case rel => exact ⟨q + 1, to - xo, rfl, by go_num, by omega, by omega, by omega, HS, Below.draws hb2 _⟩
              case measure => simp [intOf]; omega
            · have HS : Hid (s = mostF (mostD 0 (l.take k)) (fr, (tv, to)) (fr.take (q + 1))) := Lib.hid (by rw [HN.out, ← hs.out, HX.out]; show _ = max s (to - xo); omega)
              go_wp2_with fail
              go_quiet (fail)
              go_wp2_with fail
              go_roundw
              case rel => exact ⟨q + 1, s, rfl, by go_num, by omega, hs0, hs1, HS, Below.draws hb2 _⟩
              case measure => simp [intOf]; omega
          · have HS : Hid (s = mostD 0 (l.take (k + 1))) := Lib.hid (by
              have e := hs.out
              rw [List.take_of_length_le (l := fr) (by omega)] at e
              rw [mostD_take hlt, HG.out]
              exact e)
            have HB2 := Lib.hid (Below.step hb hb2 (Nat.le_refl _))
            go_wp2_with fail
            go_roundw
            case rel => exact ⟨k + 1, s, rfl, by go_num, by omega, hs0, hs1, HS, HB2.out⟩
            case measure => simp [intOf]; omega
      · have HS : Hid (n = V) := Lib.hid (by rw [HV.out]; have := hn.out; rwa [List.take_of_length_le (by omega)] at this)
        go_wp2_with fail
        go_ret2
        exact ⟨by rw [← HS.out]; rfl, hb⟩
end Go.Proofs.Ytglggigndhbpcaa
/- The contract of the program's test whether an atom has the highest Off. Condition: the atoms lie in memory. -/
namespace Go.Proofs.Ytglggigndhbpcaa
open Go.RowKit

set_option maxRecDepth 100000 in
set_option maxHeartbeats 1000000 in
theorem shighest_any (x : At) (w : World) : Calls Try.prog 32 #[.agg #[.int .i64 x.1, .int .i64 x.2]] w fun e w' => e = .returned (.bool (decide (x.2 = 1000))) ∧ Below w.heap.size w w' := by
  obtain ⟨v, o⟩ := x
  go_enter Try.func32, Try.ntmps32
  by_cases h : o = 1000
  · subst h
    go_wp2_with fail
    go_ret
    exact ⟨rfl, (Below.refl _ _).alloc (Nat.le_refl _) _⟩
  · have d0 : (o == 1000) = false := by simp [h]
    have d1 : decide (o = 1000) = false := decide_eq_false h
    go_wp2_with fail
    go_ret
    exact ⟨by simp [h], (Below.refl _ _).alloc (Nat.le_refl _) _⟩
/-- The function that is handed over. -/
def hiV : Value := .func (.func 32) #[] #[]
theorem hi_yes {b : List At} {j : Nat} (hj : j < b.length) (h : (b.getD j at0).2 = 1000) : (b.any fun x => decide (x.2 = 1000)) = true := List.any_eq_true.2 ⟨_, getD_mem at0 hj, decide_eq_true h⟩
theorem hi_no {b : List At} (h : ∀ j, j < b.length → (b.getD j at0).2 ≠ 1000) : (b.any fun x => decide (x.2 = 1000)) = false := by
  rw [Bool.eq_false_iff]
  intro hc
  obtain ⟨x, hx, h2⟩ := List.any_eq_true.1 hc
  obtain ⟨j, hj, rfl⟩ := List.getElem_of_mem hx
  have := h j hj
  rw [List.getD_eq_getElem?_getD, List.getElem?_eq_getElem hj] at this
  exact this (of_decide_eq_true h2)
set_option maxRecDepth 100000 in
set_option maxHeartbeats 1000000 in
theorem sindex_any (b : List At) (ab : Option Addr) (cb B : Nat) (w : World) (hin : AtsIn w (· < B) b ab cb) (hB : B ≤ w.heap.size) :
    Calls Try.prog 49 #[.slice ab b.length cb, hiV] w fun e w' => ∃ z : Int, e = .returned (.int .i64 z) ∧ decide (0 ≤ z) = (b.any fun x => decide (x.2 = 1000)) ∧ Below w.heap.size w w' := by
  have hlen := hin.len
  have HY := Lib.hid (fun j (hj : j < b.length) h => hi_yes hj h)
  have HN := Lib.hid (fun h => @hi_no b h)
  generalize (b.any fun x => decide (x.2 = 1000)) = R at HY HN ⊢
  unfold hiV
  go_enter Try.func49, Try.ntmps49
  go_wp2_with fail
  go_loopw [8] (fun iv wr => ∃ i : Nat, iv = .int .i64 i ∧ i ≤ b.length ∧ Hid (∀ j, j < i → (b.getD j at0).2 ≠ 1000) ∧ Hid (Below w.heap.size w wr)) (fun iv _ => b.length - (intOf iv).toNat)
  case atStart => exact ⟨0, rfl, Nat.zero_le _, Lib.hid (fun j h => absurd h (by omega)), Lib.hid (Below.refl _ _)⟩
  case round =>
    obtain ⟨i, rfl, hi, ho, hb⟩ := hrel
    by_cases hlt : i < b.length
    · have hlt' : (i : Int) < (b.length : Int) := by omega
      have hi0 : (0 : Int) ≤ (i : Int) := by omega
      obtain ⟨g, o, rfl, hgB, hc⟩ := (hin.below (hb.out.mono hB)).some (by omega)
      have c0 := (hc i hlt).1
      have c1 := (hc i hlt).2
      have HYI := Lib.hid (HY.out i hlt)
      have HNX : Hid ((b.getD i at0).2 ≠ 1000 → ∀ j, j < i + 1 → (b.getD j at0).2 ≠ 1000) := Lib.hid (fun h => up_to (p := fun j => (b.getD j at0).2 ≠ 1000) ho.out h)
      clear hc HY HN
      generalize (b.getD i at0).1 = tv at c0
      generalize (b.getD i at0).2 = tw at c1 HYI HNX
      have CH := Lib.hid (shighest_any (tv, tw) wr)
      go_wp2_with fail
      refine CH.out.mono ?_
      rintro e w1 ⟨rfl, b1⟩
      have HB1 := Lib.hid (Below.step hb.out b1 (Nat.le_refl _))
      clear b1 CH
      by_cases h : tw = 1000
      · have HR := Lib.hid (HYI.out h)
        have d0 : decide (tw = 1000) = true := decide_eq_true h
        clear HYI HNX
        go_wp2_with fail
        go_ret
        exact ⟨_, rfl, by rw [HR.out]; exact decide_eq_true hi0, HB1.out⟩
      · have HR := Lib.hid (HNX.out h)
        have d0 : decide (tw = 1000) = false := decide_eq_false h
        clear HYI HNX
        go_wp2_with fail
        go_roundw
        case rel => exact ⟨i + 1, by go_num, by omega, HR, HB1⟩
        case measure => simp [intOf]; omega
    · have HR := Lib.hid (HN.out (fun j hj => ho.out j (by omega)))
      clear HY HN
      go_wp2_with fail
      go_ret
      exact ⟨-1, rfl, by rw [HR.out]; rfl, hb.out⟩
set_option maxRecDepth 100000 in
set_option maxHeartbeats 1000000 in
theorem scontains_any (b : List At) (ab : Option Addr) (cb B : Nat) (w : World) (hin : AtsIn w (· < B) b ab cb) (hB : B ≤ w.heap.size) :
    Calls Try.prog 31 #[.slice ab b.length cb, hiV] w fun e w' => e = .returned (.bool (b.any fun x => decide (x.2 = 1000))) ∧ Below w.heap.size w w' := by
  have CX := Lib.hid (sindex_any b ab cb B w hin hB)
  clear hin hB
  go_enter Try.func31, Try.ntmps31
  go_wp2_with fail
  refine CX.out.mono ?_
  rintro e w1 ⟨z, rfl, hz, hb⟩
  have HZ := Lib.hid hz
  have HB := Lib.hid hb
  clear hz hb
  go_wp2_with fail
  go_ret
  exact ⟨by rw [← HZ.out]; rfl, HB.out⟩
end Go.Proofs.Ytglggigndhbpcaa
