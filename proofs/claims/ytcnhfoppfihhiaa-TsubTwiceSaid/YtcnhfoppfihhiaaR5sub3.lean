/- The contract of the document's own Sub of levels once more: and where the answer lies, namely in the blocks in which the levels lie that were given, or in new ones. No condition but that the levels lie in memory. -/
import Derived.Test.YtcnhfoppfihhiaaR5sub2
namespace Go.Proofs.Ytcnhfoppfihhiaa
open Go.RowKit

/-- What is answered, in memory: below B, or in new blocks. -/
def SuPostB (B : Nat) (T : Fo) (E : Int) (w : World) (e : Ending) (w' : World) : Prop :=
  ∃ (k n : Int) (F : Fo) (x : Option Addr) (c : Nat), T = .cons k n F .nil ∧ e = .returned (.tuple #[.agg #[.int .i64 k, .int .i64 n, .slice x F.len c], .int .i64 E]) ∧ SlIn w' (fun b => (b < B ∨ w.heap.size ≤ b) ∧ b < w'.heap.size) F x c ∧ Below w.heap.size w w'
theorem SuPostB.no {B : Nat} {E : Int} {w w' : World} (h : Below w.heap.size w w') : SuPostB B (.cons 0 0 .nil .nil) E w (.returned (.tuple #[.agg #[.int .i64 0, .int .i64 0, .slice none 0 0], .int .i64 E])) w' := ⟨0, 0, .nil, none, 0, rfl, rfl, SlIn.none _ _, h⟩
/-- Behind the level that was made: whether it is right, and what is answered then. -/
theorem ru_finB {B : Nat} {w w4 : World} (hB : B ≤ w.heap.size) {k n k2 n2 : Int} {f P Q F2 : Fo} {a a2 : Option Addr} {cap c2 : Nat} (hok : okS P Q k n f = (true && (true && true))) (hT : sb1 P Q k n (sbF P Q f) = .cons k2 n2 F2 .nil) (hb : Below (w.heap.size + 1 + 1) (RuW w k n a f.len cap) w4)
    {w3 : World} (hz : w.heap.size + 1 + 1 ≤ w3.heap.size) (hs : SlIn w4 (fun b => (b < B ∨ w3.heap.size ≤ b) ∧ b < w4.heap.size) F2 a2 c2) :
    (Calls Try.prog 53 #[.agg #[.int .i64 k2, .int .i64 n2, .slice a2 F2.len c2], .int .i64 5, .int .i64 10] (w4.alloc (.cells #[.int .i64 k2, .int .i64 n2, .slice a2 F2.len c2] 38)) fun e w' => e = .returned (.bool (rightB 5 10 k2 n2 F2)) ∧ Below (w4.alloc (.cells #[.int .i64 k2, .int .i64 n2, .slice a2 F2.len c2] 38)).heap.size (w4.alloc (.cells #[.int .i64 k2, .int .i64 n2, .slice a2 F2.len c2] 38)) w') ∧
    ∀ w5, Below (w4.alloc (.cells #[.int .i64 k2, .int .i64 n2, .slice a2 F2.len c2] 38)).heap.size (w4.alloc (.cells #[.int .i64 k2, .int .i64 n2, .slice a2 F2.len c2] 38)) w5 →
      (rightB 5 10 k2 n2 F2 = true → SuPostB B (subT P Q k n f) (subE P Q k n f) w (.returned (.tuple #[.agg #[.int .i64 k2, .int .i64 n2, .slice a2 F2.len c2], .int .i64 0])) (((w5.setCell ⟨w.heap.size + 1, 0, none⟩ (.int .i64 k2)).setCell ⟨w.heap.size + 1, 1, none⟩ (.int .i64 n2)).setCell ⟨w.heap.size + 1, 2, none⟩ (.slice a2 F2.len c2))) ∧
      (rightB 5 10 k2 n2 F2 = false → SuPostB B (subT P Q k n f) (subE P Q k n f) w (.returned (.tuple #[.agg #[.int .i64 0, .int .i64 0, .slice none 0 0], .int .i64 2])) (((w5.setCell ⟨w.heap.size + 1, 0, none⟩ (.int .i64 0)).setCell ⟨w.heap.size + 1, 1, none⟩ (.int .i64 0)).setCell ⟨w.heap.size + 1, 2, none⟩ (.slice none 0 0))) := by
  have hbo : Below w4.heap.size w4 (w4.alloc (.cells #[.int .i64 k2, .int .i64 n2, .slice a2 F2.len c2] 38)) := (Below.refl _ _).alloc (Nat.le_refl _) _
  have hs4 : SlIn w4 (· < w4.heap.size) F2 a2 c2 := hs.weak (fun b hb => hb.2)
  refine ⟨rRight_any 5 10 k2 n2 F2 a2 c2 w4.heap.size _ (hs4.below hbo) hbo.size, fun w5 h5 => ⟨fun hr => ?_, fun hr => ?_⟩⟩
  · have h6 := ruW_step (ruW_step hb hbo) h5
    have hw5 := (ruW_at h6).2.2
    have h45 : Below w4.heap.size w4 w5 := Below.step hbo h5 (Nat.le_refl _)
    have hE : subE P Q k n f = 0 := by
      unfold subE
      rw [hok, hT]
      show (if rightB 5 10 k2 n2 F2 = true then (0 : Int) else 2) = 0
      rw [if_pos hr]
    have hTT : subT P Q k n f = .cons k2 n2 F2 .nil := by unfold subT; rw [if_pos hE]; exact hT
    rw [hE, hTT]
    have hg := set3_only (w := w5) (w.heap.size + 1) (.int .i64 k2) (.int .i64 n2) (.slice a2 F2.len c2)
    refine ⟨k2, n2, F2, a2, c2, rfl, rfl, ?_, ?_⟩
    · refine ((hs.keep (fun b hb => h45.block b hb.2)).keep (w' := ((w5.setCell ⟨w.heap.size + 1, 0, none⟩ (.int .i64 k2)).setCell ⟨w.heap.size + 1, 1, none⟩ (.int .i64 n2)).setCell ⟨w.heap.size + 1, 2, none⟩ (.slice a2 F2.len c2)) (fun b hb => Only.block hg (Nat.lt_of_lt_of_le hb.2 h45.size) ?_)).weak (fun b hb => ?_)
      · have := hb.1; omega
      · exact ⟨by have := hb.1; omega, Nat.lt_of_lt_of_le hb.2 (Nat.le_trans h45.size hg.size)⟩
    · exact ⟨hg.os.trans hw5.1.os, hg.tape.trans hw5.1.tape, hg.output.trans hw5.1.output, Nat.le_trans hw5.1.size hg.size, fun q hq => (Only.block hg (by omega) (by omega)).trans (hw5.1.block q hq)⟩
  · have h6 := ruW_step (ruW_step hb hbo) h5
    have hw5 := (ruW_at h6).2.2
    have hE : subE P Q k n f = 2 := by
      unfold subE
      rw [hok, hT]
      show (if rightB 5 10 k2 n2 F2 = true then (0 : Int) else 2) = 2
      rw [if_neg (by rw [hr]; simp)]
    have hTT : subT P Q k n f = .cons 0 0 .nil .nil := by unfold subT; rw [hE]; rfl
    rw [hE, hTT]
    exact SuPostB.no (((hw5.1.setCell (by simp) _).setCell (by simp) _).setCell (by simp) _)
set_option maxRecDepth 100000 in
set_option maxHeartbeats 4000000 in
theorem r5Sub_off (P Q : Fo) (k n : Int) (f : Fo) (a ap aq : Option Addr) (cap cp cq B : Nat) (w : World) (hsl : SlIn w (· < B) f a cap) (hsp : SlIn w (· < B) P ap cp) (hsq : SlIn w (· < B) Q aq cq) (hB : B ≤ w.heap.size) :
    Calls Try.prog 54 #[.agg #[.int .i64 k, .int .i64 n, .slice a f.len cap], .slice ap P.len cp, .slice aq Q.len cq] w (SuPostB B (subT P Q k n f) (subE P Q k n f) w) := by
  have hb0 : Below (w.heap.size + 1 + 1) (RuW w k n a f.len cap) (RuW w k n a f.len cap) := Below.refl _ _
  have hlp := hsp.len
  have hlq := hsq.len
  have HL : Hid (∀ W, Below (w.heap.size + 1 + 1) (RuW w k n a f.len cap) W → Calls Try.prog 53 #[.agg #[.int .i64 k, .int .i64 n, .slice a f.len cap], .int .i64 5, .int .i64 10] W fun e w' => e = .returned (.bool (rightB 5 10 k n f)) ∧ Below W.heap.size W w') := Lib.hid (fun W h =>
    rRight_any 5 10 k n f a cap B W (hsl.below ((ruW_at h).2.2.1.mono hB)) (by have := (ruW_at h).2.2.2; omega))
  have HP : Hid (∀ W, Below (w.heap.size + 1 + 1) (RuW w k n a f.len cap) W → Calls Try.prog 71 #[.slice ap P.len cp] W fun e w' => e = .returned (.bool (allR P)) ∧ Below W.heap.size W w') := Lib.hid (fun W h =>
    r5right_any P ap cp B W (hsp.below ((ruW_at h).2.2.1.mono hB)) (by have := (ruW_at h).2.2.2; omega))
  have HQ : Hid (∀ W, Below (w.heap.size + 1 + 1) (RuW w k n a f.len cap) W → Calls Try.prog 71 #[.slice aq Q.len cq] W fun e w' => e = .returned (.bool (allR Q)) ∧ Below W.heap.size W w') := Lib.hid (fun W h =>
    r5right_any Q aq cq B W (hsq.below ((ruW_at h).2.2.1.mono hB)) (by have := (ruW_at h).2.2.2; omega))
  have HNO : Hid (okS P Q k n f = false → ∀ W, Below (w.heap.size + 1 + 1) (RuW w k n a f.len cap) W → SuPostB B (subT P Q k n f) (subE P Q k n f) w (.returned (.tuple #[.agg #[.int .i64 0, .int .i64 0, .slice none 0 0], .int .i64 1])) (((W.setCell ⟨w.heap.size + 1, 0, none⟩ (.int .i64 0)).setCell ⟨w.heap.size + 1, 1, none⟩ (.int .i64 0)).setCell ⟨w.heap.size + 1, 2, none⟩ (.slice none 0 0))) := Lib.hid (fun h W hb => by
    rw [(okS_1 h).1, (okS_1 h).2]
    exact SuPostB.no ((((ruW_at hb).2.2.1.setCell (by simp) _).setCell (by simp) _).setCell (by simp) _))
  by_cases h1 : P.len ≤ 5
  · have d1 : decide ((5 : Int) < (P.len : Int)) = false := by simp; omega
    by_cases h2 : Q.len ≤ 10
    · have d2 : decide ((10 : Int) < (Q.len : Int)) = false := by simp; omega
      have HOK : Hid (okS P Q k n f = (rightB 5 10 k n f && (allR P && allR Q))) := Lib.hid (by unfold okS; rw [decide_eq_true h1, decide_eq_true h2]; rfl)
      have HRP : Hid (∀ (W : World), Below (w.heap.size + 1 + 1) (RuW w k n a f.len cap) W → rightB 5 10 k n f = true → allR P = true → allR Q = true → Calls Try.prog 72 #[.agg #[.int .i64 k, .int .i64 n, .slice a f.len cap], .slice ap P.len cp, .slice aq Q.len cq] W (RpPost B (sb1 P Q k n (sbF P Q f)) W)) := Lib.hid (fun W hb r1 r2 r3 => by
        obtain ⟨y1, y2, y5, y6⟩ := ruW_at hb
        have yB := y5.mono hB
        obtain ⟨p1, p2, p3⟩ := right_parts r1
        exact r5sub_any P Q ap aq cp cq B (f.size + 1) f (Nat.lt_succ_self _) (by omega) k n a cap W p1 p2 (hsp.below yB) (hsq.below yB) (hsl.below yB) (by omega))
      generalize hv : rightB 5 10 k n f = v at HL HOK HRP
      generalize hvp : allR P = vp at HP HOK HRP
      generalize hvq : allR Q = vq at HQ HOK HRP
      clear hv hvp hvq hsl hsp hsq
      have HB0 := Lib.hid hb0
      clear hb0
      go_enter Try.func54, Try.ntmps54
      go_wp2_with fail
      refine (HL.out _ HB0.out).mono ?_
      rintro e w1 ⟨rfl, hb1⟩
      have B1 : Hid (Below (w.heap.size + 1 + 1) (RuW w k n a f.len cap) w1) := Lib.hid (ruW_step HB0.out hb1)
      clear hb1
      obtain ⟨x1, x2, x3, x4, x5, x6, x7, x8⟩ := ruW_cells B1.out
      cases v with
      | false =>
        have HE := Lib.hid (HNO.out HOK.out w1 B1.out)
        go_wp2_with fail
        refine bodyPost_ret (v := .tuple #[.agg #[.int .i64 0, .int .i64 0, .slice none 0 0], .int .i64 1]) (by simp [results, Try.results54, go_sem, x4, x5, x6]) rfl ?_
        exact HE.out
      | true =>
        go_wp2_with fail
        refine (HP.out _ B1.out).mono ?_
        rintro e w2 ⟨rfl, hb2⟩
        have B2 : Hid (Below (w.heap.size + 1 + 1) (RuW w k n a f.len cap) w2) := Lib.hid (ruW_step B1.out hb2)
        clear hb2 x1 x2 x3 x4 x5 x6 x7 x8
        obtain ⟨x1, x2, x3, x4, x5, x6, x7, x8⟩ := ruW_cells B2.out
        cases vp with
        | false =>
          have HE := Lib.hid (HNO.out HOK.out w2 B2.out)
          go_wp2_with fail
          refine bodyPost_ret (v := .tuple #[.agg #[.int .i64 0, .int .i64 0, .slice none 0 0], .int .i64 1]) (by simp [results, Try.results54, go_sem, x4, x5, x6]) rfl ?_
          exact HE.out
        | true =>
          go_wp2_with fail
          refine (HQ.out _ B2.out).mono ?_
          rintro e w3 ⟨rfl, hb3⟩
          have B3 : Hid (Below (w.heap.size + 1 + 1) (RuW w k n a f.len cap) w3) := Lib.hid (ruW_step B2.out hb3)
          clear hb3 x1 x2 x3 x4 x5 x6 x7 x8
          obtain ⟨x1, x2, x3, x4, x5, x6, x7, x8⟩ := ruW_cells B3.out
          cases vq with
          | false =>
            have HE := Lib.hid (HNO.out HOK.out w3 B3.out)
            go_wp2_with fail
            refine bodyPost_ret (v := .tuple #[.agg #[.int .i64 0, .int .i64 0, .slice none 0 0], .int .i64 1]) (by simp [results, Try.results54, go_sem, x4, x5, x6]) rfl ?_
            exact HE.out
          | true =>
            go_wp2_with fail
            refine (HRP.out _ B3.out trivial trivial trivial).mono ?_
            rintro e w4 ⟨k2, n2, F2, a2, c2, hT, rfl, t1, t2⟩
            have B4 : Hid (Below (w.heap.size + 1 + 1) (RuW w k n a f.len cap) w4) := Lib.hid (ruW_step B3.out t2)
            clear x1 x2 x3 x4 x5 x6 x7 x8
            have HF := Lib.hid (ru_finB hB HOK.out hT B4.out (ruW_at B3.out).2.2.2 t1)
            clear t1 t2
            have B5 : Hid (Below (w.heap.size + 1 + 1) (RuW w k n a f.len cap) (w4.alloc (.cells #[.int .i64 k2, .int .i64 n2, .slice a2 F2.len c2] 38))) := Lib.hid (ruW_step B4.out ((Below.refl _ _).alloc (Nat.le_refl _) _))
            have HR := Lib.hid HF.out.1
            have HF2 := Lib.hid HF.out.2
            clear HF hT
            generalize rightB 5 10 k2 n2 F2 = vr at HR HF2
            go_wp2_with fail
            refine HR.out.mono ?_
            rintro e w5 ⟨rfl, hb5⟩
            have B6 : Hid (Below (w.heap.size + 1 + 1) (RuW w k n a f.len cap) w5) := Lib.hid (ruW_step B5.out hb5)
            obtain ⟨x1, x2, x3, x4, x5, x6, x7, x8⟩ := ruW_cells B6.out
            have y0 := (bcell (by simpa using hb5) w4.heap.size 0 (Nat.lt_succ_self _)).trans (cell_at (heap_new w4 (.cells #[.int .i64 k2, .int .i64 n2, .slice a2 F2.len c2] 38)) 0)
            have y1 := (bcell (by simpa using hb5) w4.heap.size 1 (Nat.lt_succ_self _)).trans (cell_at (heap_new w4 (.cells #[.int .i64 k2, .int .i64 n2, .slice a2 F2.len c2] 38)) 1)
            have y2 := (bcell (by simpa using hb5) w4.heap.size 2 (Nat.lt_succ_self _)).trans (cell_at (heap_new w4 (.cells #[.int .i64 k2, .int .i64 n2, .slice a2 F2.len c2] 38)) 2)
            simp at y0 y1 y2
            have HG := Lib.hid (HF2.out w5 hb5)
            clear hb5
            cases vr with
            | false =>
              have HE := Lib.hid (HG.out.2 rfl)
              clear HG
              go_wp2_with fail
              refine bodyPost_ret (v := .tuple #[.agg #[.int .i64 0, .int .i64 0, .slice none 0 0], .int .i64 2]) (by simp [results, Try.results54, go_sem, x4, x5, x6]) rfl ?_
              exact HE.out
            | true =>
              have HE := Lib.hid (HG.out.1 rfl)
              clear HG
              go_wp2_with fail
              refine bodyPost_ret (v := .tuple #[.agg #[.int .i64 k2, .int .i64 n2, .slice a2 F2.len c2], .int .i64 0]) (by simp [results, Try.results54, go_sem, x4, x5, x6]) rfl ?_
              exact HE.out
    · have d2 : decide ((10 : Int) < (Q.len : Int)) = true := by simp; omega
      have hok : okS P Q k n f = false := by unfold okS; rw [decide_eq_false h2]; simp
      have HE := Lib.hid (HNO.out hok)
      generalize rightB 5 10 k n f = v at HL
      have HB0 := Lib.hid hb0
      clear hsl hsp hsq hb0 HNO
      go_enter Try.func54, Try.ntmps54
      go_wp2_with fail
      refine (HL.out _ HB0.out).mono ?_
      rintro e w1 ⟨rfl, hb1⟩
      have B1 : Hid (Below (w.heap.size + 1 + 1) (RuW w k n a f.len cap) w1) := Lib.hid (ruW_step HB0.out hb1)
      clear hb1
      obtain ⟨x1, x2, x3, x4, x5, x6, x7, x8⟩ := ruW_cells B1.out
      cases v
      all_goals
        go_wp2_with fail
        refine bodyPost_ret (v := .tuple #[.agg #[.int .i64 0, .int .i64 0, .slice none 0 0], .int .i64 1]) (by simp [results, Try.results54, go_sem, x4, x5, x6]) rfl ?_
        exact HE.out w1 B1.out
  · have d1 : decide ((5 : Int) < (P.len : Int)) = true := by simp; omega
    have hok : okS P Q k n f = false := by unfold okS; rw [decide_eq_false h1]; simp
    have HE := Lib.hid (HNO.out hok)
    generalize rightB 5 10 k n f = v at HL
    have HB0 := Lib.hid hb0
    clear hsl hsp hsq hb0 HNO
    go_enter Try.func54, Try.ntmps54
    go_wp2_with fail
    refine (HL.out _ HB0.out).mono ?_
    rintro e w1 ⟨rfl, hb1⟩
    have B1 : Hid (Below (w.heap.size + 1 + 1) (RuW w k n a f.len cap) w1) := Lib.hid (ruW_step HB0.out hb1)
    clear hb1
    obtain ⟨x1, x2, x3, x4, x5, x6, x7, x8⟩ := ruW_cells B1.out
    cases v
    all_goals
      go_wp2_with fail
      refine bodyPost_ret (v := .tuple #[.agg #[.int .i64 0, .int .i64 0, .slice none 0 0], .int .i64 1]) (by simp [results, Try.results54, go_sem, x4, x5, x6]) rfl ?_
      exact HE.out w1 B1.out
end Go.Proofs.Ytcnhfoppfihhiaa
