/- The contracts of the document's own named, right, Right and Shape. No condition but that the term lies in memory. -/
import Derived.Test.YtcnhfoppfihhiaaTrshape
namespace Go.Proofs.Ytcnhfoppfihhiaa
open Go.RowKit

theorem namedB_lv {p m v k n : Int} {ls : Fo} (h : lvB p m ls = false) : namedB p m v k n ls = false := by unfold namedB; rw [h]; rfl
theorem namedB_ok {p m v k n : Int} {ls : Fo} (h : lvB p m ls = true) : namedB p m v k n ls = (if k = 1 then decide (0 ≤ n) && (decide (n < v) && decide (ls.len = 0)) else if k = 2 then decide (n = 0) && decide (ls.len = 1) else if k = 3 then decide (0 ≤ n) && (decide (n < 20) && decide (ls.len ≤ 5)) else decide (n = 0) && decide (ls.len = 0)) := by unfold namedB; rw [h]; rfl

set_option maxRecDepth 100000 in
set_option maxHeartbeats 4000000 in
theorem r13named_any (p m v k n : Int) (ls : Fo) (la ka : Option Addr) (klen lc kc B : Nat) (w : World) (hsl : SlIn w (· < B) ls la lc) (hB : B ≤ w.heap.size) :
    Calls Try.prog 77 #[.agg #[.int .i64 k, .int .i64 n, .slice la ls.len lc, .slice ka klen kc], .int .i64 v, .int .i64 p, .int .i64 m] w fun e w' => e = .returned (.bool (namedB p m v k n ls)) ∧ Below w.heap.size w w' := by
  have hlen := hsl.len
  have HSL := Lib.hid hsl
  have HB := Lib.hid hB
  clear hsl hB
  have HN0 : Hid (lvB p m ls = true → namedB p m v k n ls = (if k = 1 then decide (0 ≤ n) && (decide (n < v) && decide (ls.len = 0)) else if k = 2 then decide (n = 0) && decide (ls.len = 1) else if k = 3 then decide (0 ≤ n) && (decide (n < 20) && decide (ls.len ≤ 5)) else decide (n = 0) && decide (ls.len = 0))) := Lib.hid namedB_ok
  have HN1 : Hid (lvB p m ls = false → namedB p m v k n ls = false) := Lib.hid namedB_lv
  generalize namedB p m v k n ls = res at HN0 HN1
  go_enter Try.func77, Try.ntmps77
  go_wp2_with fail
  go_loopw [9] (fun i wr => ∃ (j : Nat) (rr : Fo), i = .int .i64 j ∧ Hid (j + rr.len = ls.len) ∧ Hid (∀ b o, la = some ⟨b, o, none⟩ → FoIn w (· < B) rr b (o + j * 3)) ∧ Hid (lvB p m rr = lvB p m ls) ∧ Hid (Below (w.heap.size + 1) (w.alloc (.cells #[.int .i64 k, .int .i64 n, .slice la ls.len lc, .slice ka klen kc] 29)) wr)) (fun i _ => ls.len - (intOf i).toNat)
  case atStart => exact ⟨0, ls, rfl, Lib.hid (by omega), Lib.hid (by rintro b o rfl; simpa using HSL.out.foIn), Lib.hid rfl, Lib.hid (Below.refl _ _)⟩
  case round =>
    obtain ⟨j, rr, rfl, hj, hin, hall, hb⟩ := hrel
    have c0 := bcell hb.out w.heap.size 0 (by omega)
    have c1 := bcell hb.out w.heap.size 1 (by omega)
    have c2 := bcell hb.out w.heap.size 2 (by omega)
    simp at c0 c1 c2
    have hwW : Hid (Below w.heap.size w wr) := Lib.hid (Below.trans ((Below.refl _ _).alloc (Nat.le_refl _) _) (hb.out.mono (by omega)))
    cases rr with
    | nil =>
      have hlt : ¬ (j : Int) < (ls.len : Int) := by have := hj.out; simp [Fo.len] at this; omega
      have d' : decide ((j : Int) < (ls.len : Int)) = false := by simpa using hlt
      have HN := Lib.hid (HN0.out (show lvB p m ls = true from hall.out.symm))
      clear hall hin hj HN0 HN1
      by_cases k1 : k = 1
      · subst k1
        by_cases h0 : 0 ≤ n
        · have e0 : decide (0 ≤ n) = true := decide_eq_true h0
          by_cases h1 : n < v
          · have e1 : decide (n < v) = true := decide_eq_true h1
            by_cases h2 : ls.len = 0
            · have e2 : ((ls.len : Int) == 0) = true := beq_iff_eq.2 (by omega); have H2 := Lib.hid h2; clear h2
              go_wp2_with fail
              go_ret
              exact ⟨by rw [HN.out, if_pos trivial, e0, e1, decide_eq_true H2.out]; rfl, hwW.out⟩
            · have e2 : ((ls.len : Int) == 0) = false := beq_eq_false_iff_ne.2 (by omega); have H2 := Lib.hid h2; clear h2
              go_wp2_with fail
              go_ret
              exact ⟨by rw [HN.out, if_pos trivial, e0, e1, decide_eq_false H2.out]; rfl, hwW.out⟩
          · have e1 : decide (n < v) = false := decide_eq_false h1
            go_wp2_with fail
            go_ret
            exact ⟨by rw [HN.out, if_pos trivial, e0, e1]; rfl, hwW.out⟩
        · have e0 : decide (0 ≤ n) = false := decide_eq_false h0
          go_wp2_with fail
          go_ret
          exact ⟨by rw [HN.out, if_pos trivial, e0]; rfl, hwW.out⟩
      · have x1 : (k == 1) = false := beq_eq_false_iff_ne.2 k1
        by_cases k2 : k = 2
        · subst k2
          by_cases h0 : n = 0
          · have e0 : (n == 0) = true := beq_iff_eq.2 h0; have H0 := Lib.hid h0; clear h0
            by_cases h2 : ls.len = 1
            · have e2 : ((ls.len : Int) == 1) = true := beq_iff_eq.2 (by omega); have H2 := Lib.hid h2; clear h2
              go_wp2_with fail
              go_ret
              exact ⟨by rw [HN.out, if_neg (by decide), if_pos trivial, decide_eq_true H0.out, decide_eq_true H2.out]; rfl, hwW.out⟩
            · have e2 : ((ls.len : Int) == 1) = false := beq_eq_false_iff_ne.2 (by omega); have H2 := Lib.hid h2; clear h2
              go_wp2_with fail
              go_ret
              exact ⟨by rw [HN.out, if_neg (by decide), if_pos trivial, decide_eq_true H0.out, decide_eq_false H2.out]; rfl, hwW.out⟩
          · have e0 : (n == 0) = false := beq_eq_false_iff_ne.2 h0; have H0 := Lib.hid h0; clear h0
            go_wp2_with fail
            go_ret
            exact ⟨by rw [HN.out, if_neg (by decide), if_pos trivial, decide_eq_false H0.out]; rfl, hwW.out⟩
        · have x2 : (k == 2) = false := beq_eq_false_iff_ne.2 k2
          by_cases k3 : k = 3
          · subst k3
            by_cases h0 : 0 ≤ n
            · have e0 : decide (0 ≤ n) = true := decide_eq_true h0
              by_cases h1 : n < 20
              · have e1 : decide (n < 20) = true := decide_eq_true h1
                by_cases h2 : ls.len ≤ 5
                · have e2 : decide ((ls.len : Int) ≤ 5) = true := decide_eq_true (by omega); have H2 := Lib.hid h2; clear h2
                  go_wp2_with fail
                  go_ret
                  exact ⟨by rw [HN.out, if_neg (by decide), if_neg (by decide), if_pos trivial, e0, e1, decide_eq_true H2.out]; rfl, hwW.out⟩
                · have e2 : decide ((ls.len : Int) ≤ 5) = false := decide_eq_false (by omega); have H2 := Lib.hid h2; clear h2
                  go_wp2_with fail
                  go_ret
                  exact ⟨by rw [HN.out, if_neg (by decide), if_neg (by decide), if_pos trivial, e0, e1, decide_eq_false H2.out]; rfl, hwW.out⟩
              · have e1 : decide (n < 20) = false := decide_eq_false h1
                go_wp2_with fail
                go_ret
                exact ⟨by rw [HN.out, if_neg (by decide), if_neg (by decide), if_pos trivial, e0, e1]; rfl, hwW.out⟩
            · have e0 : decide (0 ≤ n) = false := decide_eq_false h0
              go_wp2_with fail
              go_ret
              exact ⟨by rw [HN.out, if_neg (by decide), if_neg (by decide), if_pos trivial, e0]; rfl, hwW.out⟩
          · have x3 : (k == 3) = false := beq_eq_false_iff_ne.2 k3
            have HNN : Hid (res = (decide (n = 0) && decide (ls.len = 0))) := Lib.hid (by rw [HN.out, if_neg k1, if_neg k2, if_neg k3])
            clear HN k1 k2 k3
            by_cases h0 : n = 0
            · have e0 : (n == 0) = true := beq_iff_eq.2 h0; have H0 := Lib.hid h0; clear h0
              by_cases h2 : ls.len = 0
              · have e2 : ((ls.len : Int) == 0) = true := beq_iff_eq.2 (by omega); have H2 := Lib.hid h2; clear h2
                go_wp2_with fail
                go_ret
                exact ⟨by rw [HNN.out, decide_eq_true H0.out, decide_eq_true H2.out]; rfl, hwW.out⟩
              · have e2 : ((ls.len : Int) == 0) = false := beq_eq_false_iff_ne.2 (by omega); have H2 := Lib.hid h2; clear h2
                go_wp2_with fail
                go_ret
                exact ⟨by rw [HNN.out, decide_eq_true H0.out, decide_eq_false H2.out]; rfl, hwW.out⟩
            · have e0 : (n == 0) = false := beq_eq_false_iff_ne.2 h0; have H0 := Lib.hid h0; clear h0
              go_wp2_with fail
              go_ret
              exact ⟨by rw [HNN.out, decide_eq_false H0.out]; rfl, hwW.out⟩
    | cons k' n' ks r' =>
      have hlt : j < ls.len := by have := hj.out; simp [Fo.len] at this; omega
      have hlt' : (j : Int) < (ls.len : Int) := by omega
      have hwB : Below B w wr := hwW.out.mono HB.out
      obtain ⟨b, o, rfl, hbB, hf0⟩ := HSL.out.some (by omega)
      obtain ⟨e0, e1, ⟨a', cap', e2, hsl'⟩, hrest⟩ := (hin.out b o rfl).below hwB _ _ _ hbB |>.first
      have hHC : Hid (lvB p m (.cons k' n' ks r') = (rightB p m k' n' ks && lvB p m r')) := Lib.hid rfl
      have HC := Lib.hid (rRight_any p m k' n' ks a' cap' B wr hsl' (Nat.le_trans HB.out hwW.out.size))
      generalize rightB p m k' n' ks = vv at HC hHC
      clear hsl' hf0 hrest
      go_wp2_with fail
      refine HC.out.mono ?_
      rintro e w2 ⟨rfl, hb2⟩
      have hb' := Lib.hid (Below.step hb.out hb2 (by simp))
      have hE := Lib.hid (hwW.out.trans (hb2.mono hwW.out.size))
      clear hb2
      cases vv with
      | true =>
        go_wp2_with fail
        go_roundw
        case rel => exact ⟨j + 1, r', by go_num, Lib.hid (by have := hj.out; simp [Fo.len] at this; omega), Lib.hid (by rintro b' o' h; cases h; have := (hin.out b o rfl).2.2.2; rwa [show o + (j + 1) * 3 = o + j * 3 + 3 by omega]), Lib.hid (by rw [← hall.out, hHC.out]; rfl), hb'⟩
        case measure => simp [intOf]; omega
      | false =>
        go_wp2_with fail
        go_ret
        exact ⟨by rw [HN1.out (by rw [← hall.out, hHC.out]; rfl)]; rfl, hE.out⟩
end Go.Proofs.Ytcnhfoppfihhiaa
