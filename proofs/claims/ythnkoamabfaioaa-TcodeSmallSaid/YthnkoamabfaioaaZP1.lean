/- The contracts of the document's own test whether a term may be. No condition but that the term lies in memory. -/
import Derived.Test.YthnkoamabfaioaaTspec
import Derived.Test.YthnkoamabfaioaaZP0
import Derived.Deep.QuietTactic
import Derived.BigQuiet
import Derived.Deep.RegionHeld3
import Derived.IntWalk
import Derived.Test.YthnkoamabfaioaaUspec
import Derived.Test.YthnkoamabfaioaaSpec
import Derived.Test.YthnkoamabfaioaaTlf
namespace Go.Proofs.Ythnkoamabfaioaa
open Go.RowKit

set_option maxHeartbeats 1000000 in
theorem r13kids_any (k : Int) (w : World) : Calls Try.prog 74 #[.int .i64 k] w fun e w' => e = .returned (.int .i64 (tkids k)) ∧ w' = w := by
  by_cases hk : k < 1 ∨ 7 < k
  · have e : tkids k = -1 := by have := tkids_cases k; omega
    have HE := Lib.hid e
    clear e
    have n1 : (k == 1) = false := beq_eq_false_iff_ne.2 (by omega)
    have n2 : (k == 2) = false := beq_eq_false_iff_ne.2 (by omega)
    have n3 : (k == 3) = false := beq_eq_false_iff_ne.2 (by omega)
    have n4 : (k == 4) = false := beq_eq_false_iff_ne.2 (by omega)
    have n5 : (k == 5) = false := beq_eq_false_iff_ne.2 (by omega)
    have n6 : (k == 6) = false := beq_eq_false_iff_ne.2 (by omega)
    have n7 : (k == 7) = false := beq_eq_false_iff_ne.2 (by omega)
    clear hk
    go_enter Try.func74, Try.ntmps74
    go_wp2
    go_ret
    exact ⟨by rw [HE.out]; rfl, rfl⟩
  · have h6 : k = 1 ∨ k = 2 ∨ k = 3 ∨ k = 4 ∨ k = 5 ∨ k = 6 ∨ k = 7 := by omega
    clear hk
    rcases h6 with rfl | rfl | rfl | rfl | rfl | rfl | rfl
    all_goals
      go_enter Try.func74, Try.ntmps74
      go_wp2
      go_ret
      exact ⟨rfl, rfl⟩
theorem bindK_1 {k : Int} {i : Nat} (h : (k = 5 ∨ k = 6) ∧ i = 1 ∨ k = 7 ∧ i = 2) : bindK k i = 1 := if_pos h
theorem bindK_0 {k : Int} {i : Nat} (h : ¬ ((k = 5 ∨ k = 6) ∧ i = 1 ∨ k = 7 ∧ i = 2)) : bindK k i = 0 := if_neg h
set_option maxHeartbeats 1000000 in
theorem r13binds_any (k : Int) (i : Nat) (w : World) : Calls Try.prog 76 #[.int .i64 k, .int .i64 i] w fun e w' => e = .returned (.int .i64 (bindK k i)) ∧ w' = w := by
  obtain ⟨j, hj⟩ : ∃ j : Int, (i : Int) = j := ⟨_, rfl⟩
  rw [hj]
  by_cases h5 : k = 5
  · by_cases h1 : i = 1
    · rw [bindK_1 (.inl ⟨.inl h5, h1⟩)]
      obtain rfl : j = 1 := by omega
      subst h5
      clear h1 hj
      go_enter Try.func76, Try.ntmps76
      go_wp2
      go_ret
      exact ⟨rfl, rfl⟩
    · rw [bindK_0 (by omega)]
      have n1 : (j == 1) = false := beq_eq_false_iff_ne.2 (by omega)
      subst h5
      clear h1 hj
      go_enter Try.func76, Try.ntmps76
      go_wp2
      go_ret
      exact ⟨rfl, rfl⟩
  · by_cases h6 : k = 6
    · by_cases h1 : i = 1
      · rw [bindK_1 (.inl ⟨.inr h6, h1⟩)]
        obtain rfl : j = 1 := by omega
        subst h6
        clear h1 hj
        go_enter Try.func76, Try.ntmps76
        go_wp2
        go_ret
        exact ⟨rfl, rfl⟩
      · rw [bindK_0 (by omega)]
        have n1 : (j == 1) = false := beq_eq_false_iff_ne.2 (by omega)
        subst h6
        clear h1 hj
        go_enter Try.func76, Try.ntmps76
        go_wp2
        go_ret
        exact ⟨rfl, rfl⟩
    · by_cases h7 : k = 7
      · by_cases h2 : i = 2
        · rw [bindK_1 (.inr ⟨h7, h2⟩)]
          obtain rfl : j = 2 := by omega
          subst h7
          clear h2 hj
          go_enter Try.func76, Try.ntmps76
          go_wp2
          go_ret
          exact ⟨rfl, rfl⟩
        · rw [bindK_0 (by omega)]
          have n1 : (j == 2) = false := beq_eq_false_iff_ne.2 (by omega)
          subst h7
          clear h2 hj
          go_enter Try.func76, Try.ntmps76
          go_wp2
          go_ret
          exact ⟨rfl, rfl⟩
      · rw [bindK_0 (by omega)]
        have n5 : (k == 5) = false := beq_eq_false_iff_ne.2 h5
        have n6 : (k == 6) = false := beq_eq_false_iff_ne.2 h6
        have n7 : (k == 7) = false := beq_eq_false_iff_ne.2 h7
        clear h5 h6 h7 hj
        go_enter Try.func76, Try.ntmps76
        go_wp2
        go_ret
        exact ⟨rfl, rfl⟩

set_option maxRecDepth 100000 in
set_option maxHeartbeats 1000000 in
theorem r13parts_any (s : Nat) : ∀ (f : Ft), f.size < s → ∀ (k n m : Int) (ls : Fo) (la ka : Option Addr) (lc kc B : Nat) (w : World), TlIn w (· < B) f ka kc → B ≤ w.heap.size → 1 ≤ m → m ≤ 2000 →
    Calls Try.prog 11 #[.agg #[.int .i64 k, .int .i64 n, .slice la ls.len lc, .slice ka f.len kc], .int .i64 m] w fun e w' => e = .returned (.int .i64 (partsF f m 1)) ∧ Below w.heap.size w w' := by
  induction s with
  | zero => intro f hs; omega
  | succ s ih =>
    intro f hs k n m ls la ka lc kc B w hsl hB h1 h2
    have IH := Lib.hid ih
    clear ih
    have hlen := hsl.len
    go_enter Try.func11, Try.ntmps11
    go_wp2_with fail
    go_loopw [5, 6] (fun mm i wr => ∃ (j : Nat) (r : Ft) (q : Int), i = .int .i64 j ∧ mm = .int .i64 q ∧ 1 ≤ q ∧ q ≤ m ∧ Hid (j + r.len = f.len) ∧ Hid (r.size ≤ f.size) ∧
        Hid (∀ b o, ka = some ⟨b, o, none⟩ → FtIn w (· < B) r b (o + j * 4)) ∧ Hid (partsF r m q = partsF f m 1) ∧ Below (w.heap.size + 1) (w.alloc (.cells #[.int .i64 k, .int .i64 n, .slice la ls.len lc, .slice ka f.len kc] 29)) wr)
      (fun _ i _ => f.len - (intOf i).toNat)
    case atStart => exact ⟨0, f, 1, rfl, rfl, by omega, by omega, Lib.hid (by omega), Lib.hid (Nat.le_refl _), Lib.hid (by rintro b o rfl; simpa using hsl.ftIn), Lib.hid rfl, Below.refl _ _⟩
    case round =>
      obtain ⟨j, r, q, rfl, rfl, hq0, hq1, hj, hrs, hin, hfew, hb⟩ := hrel
      have c3 := bcell hb w.heap.size 3 (by omega)
      simp at c3
      have hwB : Below B w wr := ((Below.refl B w).alloc hB _).trans (hb.mono (by omega))
      cases r with
      | nil =>
        have hlt : ¬ (j : Int) < (f.len : Int) := by have := hj.out; simp [Ft.len] at this; omega
        have d : decide ((j : Int) < (f.len : Int)) = false := by simpa using hlt
        go_wp2_with fail
        go_ret
        exact ⟨by rw [← hfew.out]; rfl, Below.trans ((Below.refl _ _).alloc (Nat.le_refl _) _) (hb.mono (by omega))⟩
      | cons k' n' ls' ks r' =>
        have hlt : j < f.len := by have := hj.out; simp [Ft.len] at this; omega
        by_cases hq : q < m
        · obtain ⟨b, o, rfl, hbB, hf0⟩ := hsl.some (by omega)
          obtain ⟨e0, e1, ⟨la', lc', e2, _⟩, ⟨a', cap', e3, hsl'⟩, hrest⟩ := (hin.out b o rfl).below hwB _ _ _ hbB |>.first
          have hks : ks.size < s := by have := hrs.out; simp [Ft.size] at this; omega
          have HG := Lib.hid (partsF_go k' n' ls' ks r' hq)
          have hv := partsF_eq ks (m - q) 1 (by omega) (by omega)
          have hv1 : 1 ≤ partsF ks (m - q) 1 := by omega
          have hv2 : q + partsF ks (m - q) 1 ≤ m := by omega
          clear hv
          go_wp2_with fail
          refine (IH.out ks hks _ _ _ ls' _ _ _ _ B _ hsl' (Nat.le_trans hB hwB.size) (by omega) (by omega)).mono ?_
          rintro e w2 ⟨rfl, hb2⟩
          have hb' := Below.step hb hb2 (by simp)
          go_wp2_with fail
          go_roundw
          case rel => exact ⟨j + 1, r', _, by go_num, rfl, by omega, by omega, Lib.hid (by have := hj.out; simp [Ft.len] at this; omega), Lib.hid (by have := hrs.out; simp [Ft.size] at this; omega), Lib.hid (by rintro b' o' h; cases h; have := (hin.out b o rfl).2.2.2.2; rwa [show o + (j + 1) * 4 = o + j * 4 + 4 by omega]), Lib.hid (by rw [← hfew.out, HG.out]), hb'⟩
          case measure => simp [intOf]; omega
        · have HE := Lib.hid (partsF_stop k' n' ls' ks r' hq)
          have d : decide (q < m) = false := by simpa using hq
          have d' : decide ((j : Int) < (f.len : Int)) = true := by simp; omega
          go_wp2_with fail
          go_ret
          exact ⟨by rw [← hfew.out, HE.out]; rfl, Below.trans ((Below.refl _ _).alloc (Nat.le_refl _) _) (hb.mono (by omega))⟩
end Go.Proofs.Ythnkoamabfaioaa
/- The contracts of the document's own named, right, Right and Shape. No condition but that the term lies in memory. -/
namespace Go.Proofs.Ythnkoamabfaioaa
open Go.RowKit

theorem namedB_lv {p m v k n : Int} {ls : Fo} (h : lvB p m ls = false) : namedB p m v k n ls = false := by unfold namedB; rw [h]; rfl
theorem namedB_ok {p m v k n : Int} {ls : Fo} (h : lvB p m ls = true) : namedB p m v k n ls = (if k = 1 then decide (0 ≤ n) && (decide (n < v) && decide (ls.len = 0)) else if k = 2 then decide (n = 0) && decide (ls.len = 1) else if k = 3 then decide (0 ≤ n) && (decide (n < 20) && decide (ls.len ≤ 5)) else decide (n = 0) && decide (ls.len = 0)) := by unfold namedB; rw [h]; rfl

set_option maxRecDepth 100000 in
set_option maxHeartbeats 4000000 in
theorem r13named_any (p m v k n : Int) (ls : Fo) (la ka : Option Addr) (klen lc kc B : Nat) (w : World) (hsl : SlIn w (· < B) ls la lc) (hB : B ≤ w.heap.size) :
    Calls Try.prog 75 #[.agg #[.int .i64 k, .int .i64 n, .slice la ls.len lc, .slice ka klen kc], .int .i64 v, .int .i64 p, .int .i64 m] w fun e w' => e = .returned (.bool (namedB p m v k n ls)) ∧ Below w.heap.size w w' := by
  have hlen := hsl.len
  have HSL := Lib.hid hsl
  have HB := Lib.hid hB
  clear hsl hB
  have HN0 : Hid (lvB p m ls = true → namedB p m v k n ls = (if k = 1 then decide (0 ≤ n) && (decide (n < v) && decide (ls.len = 0)) else if k = 2 then decide (n = 0) && decide (ls.len = 1) else if k = 3 then decide (0 ≤ n) && (decide (n < 20) && decide (ls.len ≤ 5)) else decide (n = 0) && decide (ls.len = 0))) := Lib.hid namedB_ok
  have HN1 : Hid (lvB p m ls = false → namedB p m v k n ls = false) := Lib.hid namedB_lv
  generalize namedB p m v k n ls = res at HN0 HN1
  go_enter Try.func75, Try.ntmps75
  go_wp2_with fail
  go_loopw [9] (fun i wr => ∃ (j : Nat) (rr : Fo), i = .int .i64 j ∧ Hid (j + rr.len = ls.len) ∧ Hid (∀ b o, la = some ⟨b, o, none⟩ → FoIn w (· < B) rr b (o + j * 3)) ∧ Hid (lvB p m rr = lvB p m ls) ∧ Hid (Below (w.heap.size + 1) (w.alloc (.cells #[.int .i64 k, .int .i64 n, .slice la ls.len lc, .slice ka klen kc] 29)) wr)) (fun i _ => ls.len - (intOf i).toNat)
  case atStart => exact ⟨0, ls, rfl, Lib.hid (by omega), Lib.hid (by rintro b o rfl; simpa using HSL.out.foIn), Lib.hid rfl, Lib.hid (Below.refl _ _)⟩
  case round =>
    obtain ⟨j, rr, rfl, hj, hin, hall, hb⟩ := hrel
    have c0 := bcell hb.out w.heap.size 0 (by omega)
    have c1 := bcell hb.out w.heap.size 1 (by omega)
    have c2 := bcell hb.out w.heap.size 2 (by omega)
    simp at c0 c1 c2
    have hwW : Hid (Below w.heap.size w wr) := Lib.hid (Below.trans ((Below.refl _ _).alloc (Nat.le_refl _) _) (hb.out.mono (by omega)))
    cases rr with
    | nil =>
      have hlt : ¬ (j : Int) < (ls.len : Int) := by have := hj.out; simp [Fo.len] at this; omega
      have d' : decide ((j : Int) < (ls.len : Int)) = false := by simpa using hlt
      have HN := Lib.hid (HN0.out (show lvB p m ls = true from hall.out.symm))
      clear hall hin hj HN0 HN1
      by_cases k1 : k = 1
      · subst k1
        by_cases h0 : 0 ≤ n
        · have e0 : decide (0 ≤ n) = true := decide_eq_true h0
          by_cases h1 : n < v
          · have e1 : decide (n < v) = true := decide_eq_true h1
            by_cases h2 : ls.len = 0
            · have e2 : ((ls.len : Int) == 0) = true := beq_iff_eq.2 (by omega); have H2 := Lib.hid h2; clear h2
              go_wp2_with fail
              go_ret
              exact ⟨by rw [HN.out, if_pos trivial, e0, e1, decide_eq_true H2.out]; rfl, hwW.out⟩
            · have e2 : ((ls.len : Int) == 0) = false := beq_eq_false_iff_ne.2 (by omega); have H2 := Lib.hid h2; clear h2
              go_wp2_with fail
              go_ret
              exact ⟨by rw [HN.out, if_pos trivial, e0, e1, decide_eq_false H2.out]; rfl, hwW.out⟩
          · have e1 : decide (n < v) = false := decide_eq_false h1
            go_wp2_with fail
            go_ret
            exact ⟨by rw [HN.out, if_pos trivial, e0, e1]; rfl, hwW.out⟩
        · have e0 : decide (0 ≤ n) = false := decide_eq_false h0
          go_wp2_with fail
          go_ret
          exact ⟨by rw [HN.out, if_pos trivial, e0]; rfl, hwW.out⟩
      · have x1 : (k == 1) = false := beq_eq_false_iff_ne.2 k1
        by_cases k2 : k = 2
        · subst k2
          by_cases h0 : n = 0
          · have e0 : (n == 0) = true := beq_iff_eq.2 h0; have H0 := Lib.hid h0; clear h0
            by_cases h2 : ls.len = 1
            · have e2 : ((ls.len : Int) == 1) = true := beq_iff_eq.2 (by omega); have H2 := Lib.hid h2; clear h2
              go_wp2_with fail
              go_ret
              exact ⟨by rw [HN.out, if_neg (by decide), if_pos trivial, decide_eq_true H0.out, decide_eq_true H2.out]; rfl, hwW.out⟩
            · have e2 : ((ls.len : Int) == 1) = false := beq_eq_false_iff_ne.2 (by omega); have H2 := Lib.hid h2; clear h2
              go_wp2_with fail
              go_ret
              exact ⟨by rw [HN.out, if_neg (by decide), if_pos trivial, decide_eq_true H0.out, decide_eq_false H2.out]; rfl, hwW.out⟩
          · have e0 : (n == 0) = false := beq_eq_false_iff_ne.2 h0; have H0 := Lib.hid h0; clear h0
            go_wp2_with fail
            go_ret
            exact ⟨by rw [HN.out, if_neg (by decide), if_pos trivial, decide_eq_false H0.out]; rfl, hwW.out⟩
        · have x2 : (k == 2) = false := beq_eq_false_iff_ne.2 k2
          by_cases k3 : k = 3
          · subst k3
            by_cases h0 : 0 ≤ n
            · have e0 : decide (0 ≤ n) = true := decide_eq_true h0
              by_cases h1 : n < 20
              · have e1 : decide (n < 20) = true := decide_eq_true h1
                by_cases h2 : ls.len ≤ 5
                · have e2 : decide ((ls.len : Int) ≤ 5) = true := decide_eq_true (by omega); have H2 := Lib.hid h2; clear h2
                  go_wp2_with fail
                  go_ret
                  exact ⟨by rw [HN.out, if_neg (by decide), if_neg (by decide), if_pos trivial, e0, e1, decide_eq_true H2.out]; rfl, hwW.out⟩
                · have e2 : decide ((ls.len : Int) ≤ 5) = false := decide_eq_false (by omega); have H2 := Lib.hid h2; clear h2
                  go_wp2_with fail
                  go_ret
                  exact ⟨by rw [HN.out, if_neg (by decide), if_neg (by decide), if_pos trivial, e0, e1, decide_eq_false H2.out]; rfl, hwW.out⟩
              · have e1 : decide (n < 20) = false := decide_eq_false h1
                go_wp2_with fail
                go_ret
                exact ⟨by rw [HN.out, if_neg (by decide), if_neg (by decide), if_pos trivial, e0, e1]; rfl, hwW.out⟩
            · have e0 : decide (0 ≤ n) = false := decide_eq_false h0
              go_wp2_with fail
              go_ret
              exact ⟨by rw [HN.out, if_neg (by decide), if_neg (by decide), if_pos trivial, e0]; rfl, hwW.out⟩
          · have x3 : (k == 3) = false := beq_eq_false_iff_ne.2 k3
            have HNN : Hid (res = (decide (n = 0) && decide (ls.len = 0))) := Lib.hid (by rw [HN.out, if_neg k1, if_neg k2, if_neg k3])
            clear HN k1 k2 k3
            by_cases h0 : n = 0
            · have e0 : (n == 0) = true := beq_iff_eq.2 h0; have H0 := Lib.hid h0; clear h0
              by_cases h2 : ls.len = 0
              · have e2 : ((ls.len : Int) == 0) = true := beq_iff_eq.2 (by omega); have H2 := Lib.hid h2; clear h2
                go_wp2_with fail
                go_ret
                exact ⟨by rw [HNN.out, decide_eq_true H0.out, decide_eq_true H2.out]; rfl, hwW.out⟩
              · have e2 : ((ls.len : Int) == 0) = false := beq_eq_false_iff_ne.2 (by omega); have H2 := Lib.hid h2; clear h2
                go_wp2_with fail
                go_ret
                exact ⟨by rw [HNN.out, decide_eq_true H0.out, decide_eq_false H2.out]; rfl, hwW.out⟩
            · have e0 : (n == 0) = false := beq_eq_false_iff_ne.2 h0; have H0 := Lib.hid h0; clear h0
              go_wp2_with fail
              go_ret
              exact ⟨by rw [HNN.out, decide_eq_false H0.out]; rfl, hwW.out⟩
    | cons k' n' ks r' =>
      have hlt : j < ls.len := by have := hj.out; simp [Fo.len] at this; omega
      have hlt' : (j : Int) < (ls.len : Int) := by omega
      have hwB : Below B w wr := hwW.out.mono HB.out
      obtain ⟨b, o, rfl, hbB, hf0⟩ := HSL.out.some (by omega)
      obtain ⟨e0, e1, ⟨a', cap', e2, hsl'⟩, hrest⟩ := (hin.out b o rfl).below hwB _ _ _ hbB |>.first
      have hHC : Hid (lvB p m (.cons k' n' ks r') = (rightB p m k' n' ks && lvB p m r')) := Lib.hid rfl
      have HC := Lib.hid (rRight_any p m k' n' ks a' cap' B wr hsl' (Nat.le_trans HB.out hwW.out.size))
      generalize rightB p m k' n' ks = vv at HC hHC
      clear hsl' hf0 hrest
      go_wp2_with fail
      refine HC.out.mono ?_
      rintro e w2 ⟨rfl, hb2⟩
      have hb' := Lib.hid (Below.step hb.out hb2 (by simp))
      have hE := Lib.hid (hwW.out.trans (hb2.mono hwW.out.size))
      clear hb2
      cases vv with
      | true =>
        go_wp2_with fail
        go_roundw
        case rel => exact ⟨j + 1, r', by go_num, Lib.hid (by have := hj.out; simp [Fo.len] at this; omega), Lib.hid (by rintro b' o' h; cases h; have := (hin.out b o rfl).2.2.2; rwa [show o + (j + 1) * 3 = o + j * 3 + 3 by omega]), Lib.hid (by rw [← hall.out, hHC.out]; rfl), hb'⟩
        case measure => simp [intOf]; omega
      | false =>
        go_wp2_with fail
        go_ret
        exact ⟨by rw [HN1.out (by rw [← hall.out, hHC.out]; rfl)]; rfl, hE.out⟩
end Go.Proofs.Ythnkoamabfaioaa
/- The contracts of the document's own right, Right and Shape. No condition but that the term lies in memory. -/
namespace Go.Proofs.Ythnkoamabfaioaa
open Go.RowKit

theorem rrHeld {B : Nat} {W w' : World} {N : Nat} {x0 x1 x2 x3 : Value} (h : Below B W w') (hN : N < B) (q0 : W.cell? ⟨N, 0, none⟩ = some x0) (q1 : W.cell? ⟨N, 1, none⟩ = some x1) (q2 : W.cell? ⟨N, 2, none⟩ = some x2) (q3 : W.cell? ⟨N, 3, none⟩ = some x3) :
    Hid (Below B W w') ∧ w'.cell? ⟨N, 0, none⟩ = some x0 ∧ w'.cell? ⟨N, 1, none⟩ = some x1 ∧ w'.cell? ⟨N, 2, none⟩ = some x2 ∧ w'.cell? ⟨N, 3, none⟩ = some x3 :=
  ⟨Lib.hid h, (bcell h _ _ hN).trans q0, (bcell h _ _ hN).trans q1, (bcell h _ _ hN).trans q2, (bcell h _ _ hN).trans q3⟩
theorem rrHeld2 {B : Nat} {W w' : World} {N b i : Nat} {x0 x3 y0 y1 y2 y3 : Value} (h : Below B W w') (hN : N < B) (hb : b < B) (q0 : W.cell? ⟨N, 0, none⟩ = some x0) (q3 : W.cell? ⟨N, 3, none⟩ = some x3) (e0 : W.cell? ⟨b, i, none⟩ = some y0) (e1 : W.cell? ⟨b, i + 1, none⟩ = some y1) (e2 : W.cell? ⟨b, i + 2, none⟩ = some y2) (e3 : W.cell? ⟨b, i + 3, none⟩ = some y3) :
    Hid (Below B W w') ∧ w'.cell? ⟨N, 0, none⟩ = some x0 ∧ w'.cell? ⟨N, 3, none⟩ = some x3 ∧ w'.cell? ⟨b, i, none⟩ = some y0 ∧ w'.cell? ⟨b, i + 1, none⟩ = some y1 ∧ w'.cell? ⟨b, i + 2, none⟩ = some y2 ∧ w'.cell? ⟨b, i + 3, none⟩ = some y3 :=
  ⟨Lib.hid h, (bcell h _ _ hN).trans q0, (bcell h _ _ hN).trans q3, (bcell h _ _ hb).trans e0, (bcell h _ _ hb).trans e1, (bcell h _ _ hb).trans e2, (bcell h _ _ hb).trans e3⟩
theorem tOne_low (p m v : Int) {d : Int} (k n : Int) (ls : Fo) (ks : Ft) (h : d < 1) : tOne p m v d k n ls ks = false := by unfold tOne; rw [decide_eq_false (by omega)]; rfl
theorem tOne_len (p m v d : Int) {k : Int} (n : Int) (ls : Fo) {ks : Ft} (h : (ks.len : Int) ≠ tkids k) : tOne p m v d k n ls ks = false := by unfold tOne; rw [← named_fits, decide_eq_false h]; simp
theorem tOne_named {p m v d k : Int} {n : Int} {ls : Fo} {ks : Ft} (h0 : ¬ d < 1) (h : (ks.len : Int) = tkids k) {x : Bool} (hx : namedB p m v k n ls = x) : tOne p m v d k n ls ks = (x && tAll p m ks k 0 v (d - 1)) := by
  unfold tOne; rw [← named_fits, decide_eq_true h, hx, decide_eq_true (by omega)]; rfl

set_option maxRecDepth 100000 in
set_option maxHeartbeats 4000000 in
theorem r13right_any (p m : Int) (s : Nat) : ∀ (f : Ft), f.size < s → ∀ (k n v d : Int) (ls : Fo) (la ka : Option Addr) (lc kc B : Nat) (w : World), SlIn w (· < B) ls la lc → TlIn w (· < B) f ka kc → B ≤ w.heap.size → 0 ≤ d → d ≤ 30 → 0 ≤ v → v + d ≤ 2000 →
    Calls Try.prog 58 #[.agg #[.int .i64 k, .int .i64 n, .slice la ls.len lc, .slice ka f.len kc], .int .i64 v, .int .i64 p, .int .i64 m, .int .i64 d] w fun e w' => e = .returned (.bool (tOne p m v d k n ls f)) ∧ Below w.heap.size w w' := by
  induction s with
  | zero => intro f hs; omega
  | succ s ih =>
    intro f hs k n v d ls la ka lc kc B w hls hsl hB hd0 hd hv0 hvd
    have IH := Lib.hid ih
    clear ih
    have hlen := hsl.len
    by_cases h1 : d < 1
    · rw [tOne_low p m v k n ls f h1]
      have d1 : decide (d < 1) = true := decide_eq_true h1
      go_enter Try.func58, Try.ntmps58
      go_wp2_with fail
      go_quiet (fail)
      go_wp2_with fail
      go_ret
      exact ⟨rfl, Below.draws ((Below.refl _ _).alloc (Nat.le_refl _) _) _⟩
    · have d1 : decide (d < 1) = false := decide_eq_false h1
      by_cases h2 : (f.len : Int) = tkids k
      · have HOK := Lib.hid (fun x hx => tOne_named (p := p) (m := m) (v := v) (d := d) (n := n) (ls := ls) h1 h2 (x := x) hx)
        have hb0 : Below w.heap.size w (w.alloc (.cells #[.int .i64 k, .int .i64 n, .slice la ls.len lc, .slice ka f.len kc] 29)).drew := ((Below.refl _ _).alloc (Nat.le_refl _) _).drew
        have HN : Hid (∀ W : World, Below w.heap.size w W → Calls Try.prog 75 #[.agg #[.int .i64 k, .int .i64 n, .slice la ls.len lc, .slice ka f.len kc], .int .i64 v, .int .i64 p, .int .i64 m] W fun e w' => e = .returned (.bool (namedB p m v k n ls)) ∧ Below W.heap.size W w') := Lib.hid (by
          intro W h
          exact r13named_any p m v k n ls la ka f.len lc kc B W (hls.below (h.mono hB)) (Nat.le_trans hB h.size))
        generalize namedB p m v k n ls = x at HN HOK
        have HX := Lib.hid (HOK.out x rfl)
        generalize tOne p m v d k n ls f = res at HX
        have dl : ((f.len : Int) != tkids k) = false := by rw [h2]; simp
        have H2 := Lib.hid h2
        have HKI : Hid (∀ W, Calls Try.prog 74 #[.int .i64 k] W fun e w' => e = .returned (.int .i64 (tkids k)) ∧ w' = W) := Lib.hid (r13kids_any k)
        obtain ⟨q0, q1, q2, q3⟩ := cells4 (heap_new w (.cells #[.int .i64 k, .int .i64 n, .slice la ls.len lc, .slice ka f.len kc] 29))
        have HB := Lib.hid hb0
        have HLS := Lib.hid hls
        have HSL := Lib.hid hsl
        clear HOK h2 hb0 hls hsl
        go_enter Try.func58, Try.ntmps58
        go_wp2_with fail
        go_region_held3 (fun w' => Hid (Below (w.heap.size + 1) (w.alloc (.cells #[.int .i64 k, .int .i64 n, .slice la ls.len lc, .slice ka f.len kc] 29)).drew w') ∧ w'.cell? ⟨w.heap.size, 0, none⟩ = some (.int .i64 k) ∧ w'.cell? ⟨w.heap.size, 1, none⟩ = some (.int .i64 n) ∧ w'.cell? ⟨w.heap.size, 2, none⟩ = some (.slice la ls.len lc) ∧ w'.cell? ⟨w.heap.size, 3, none⟩ = some (.slice ka f.len kc))
          (first | exact ⟨Lib.hid (Below.refl _ _), q0, q1, q2, q3⟩ | (go_split_ands; exact rrHeld (Below.step (Hid.out (by assumption)) hbN (by simp)) (Nat.lt_succ_self _) q0 q1 q2 q3) | (go_split_ands; exact rrHeld (Hid.out (by assumption)) (Nat.lt_succ_self _) q0 q1 q2 q3))
          (first | (go_at_call 74; refine (HKI.out _).mono ?_; rintro e wN ⟨rfl, rfl⟩) | (go_at_call 75; go_split_ands; refine (HN.out _ (HB.out.trans (Below.mono (Hid.out (by assumption)) (Nat.le_succ _)))).mono ?_; rintro e wN ⟨rfl, hbN⟩))
        go_split_ands
        have HBN : Hid (Below (w.heap.size + 1) (w.alloc (.cells #[.int .i64 k, .int .i64 n, .slice la ls.len lc, .slice ka f.len kc] 29)).drew wN) := by assumption
        have hEE := Lib.hid (HB.out.trans (Below.mono HBN.out (Nat.le_succ _)))
        clear q0 q1 q2 q3 hbN HN HKI HLS
        cases x with
        | false =>
          go_wp2_with fail
          go_ret
          exact ⟨by rw [HX.out]; rfl, hEE.out⟩
        | true =>
          simp only [Bool.not_true]
          go_wp2_with fail
          go_loopw [11] (fun i wr => ∃ (j : Nat) (r : Ft), i = .int .i64 j ∧ Hid (j + r.len = f.len) ∧ Hid (r.size ≤ f.size) ∧
              Hid (∀ b o, ka = some ⟨b, o, none⟩ → FtIn w (· < B) r b (o + j * 4)) ∧ Hid (tAll p m r k j v (d - 1) = tAll p m f k 0 v (d - 1)) ∧ Hid (Below (w.heap.size + 1) (w.alloc (.cells #[.int .i64 k, .int .i64 n, .slice la ls.len lc, .slice ka f.len kc] 29)) wr))
            (fun i _ => f.len - (intOf i).toNat)
          case atStart => exact ⟨0, f, rfl, Lib.hid (by omega), Lib.hid (Nat.le_refl _), Lib.hid (by rintro b o rfl; simpa using HSL.out.ftIn), Lib.hid rfl, Lib.hid (Below.trans (Below.refl _ _).drew HBN.out)⟩
          case round =>
            obtain ⟨j, r, rfl, hj, hrs, hin, hall, hb⟩ := hrel
            have c0 := bcell hb.out w.heap.size 0 (by omega)
            have c3 := bcell hb.out w.heap.size 3 (by omega)
            simp at c0 c3
            have hwW : Hid (Below w.heap.size w wr) := Lib.hid (Below.trans ((Below.refl _ _).alloc (Nat.le_refl _) _) (hb.out.mono (by omega)))
            cases r with
            | nil =>
              have hlt : ¬ (j : Int) < (f.len : Int) := by have := hj.out; simp [Ft.len] at this; omega
              have d' : decide ((j : Int) < (f.len : Int)) = false := by simpa using hlt
              go_wp2_with fail
              go_ret
              exact ⟨by rw [HX.out, ← hall.out]; rfl, hwW.out⟩
            | cons k' n' ls' ks r' =>
              have hlt : j < f.len := by have := hj.out; simp [Ft.len] at this; omega
              have hlt' : (j : Int) < (f.len : Int) := by omega
              have hwB : Below B w wr := hwW.out.mono hB
              obtain ⟨b, o, rfl, hbB, hf0⟩ := HSL.out.some (by omega)
              obtain ⟨e0, e1, ⟨la', lc', e2, hls'⟩, ⟨ka', kc', e3, hsl'⟩, hrest⟩ := (hin.out b o rfl).below hwB _ _ _ hbB |>.first
              have hks : ks.size < s := by have := hrs.out; simp [Ft.size] at this; omega
              have HC := Lib.hid (tAll_cons p m k' n' ls' ks r' k j v (d - 1))
              have hbind : 0 ≤ bindK k j ∧ bindK k j ≤ 1 := by unfold bindK; split <;> omega
              have HCL : Hid (∀ W : World, Below wr.heap.size wr W → Calls Try.prog 58 #[.agg #[.int .i64 k', .int .i64 n', .slice la' ls'.len lc', .slice ka' ks.len kc'], .int .i64 (v + bindK k j), .int .i64 p, .int .i64 m, .int .i64 (d - 1)] W fun e w' => e = .returned (.bool (tOne p m (v + bindK k j) (d - 1) k' n' ls' ks)) ∧ Below W.heap.size W w') := Lib.hid (by
                intro W h
                have h' : Below B wr W := h.mono (Nat.le_trans hB hwW.out.size)
                exact IH.out ks hks k' n' (v + bindK k j) (d - 1) ls' la' ka' lc' kc' B W (hls'.below h') (hsl'.below h') (Nat.le_trans (Nat.le_trans hB hwW.out.size) h.size) (by omega) (by omega) (by omega) (by omega))
              have HBI : Hid (∀ W, Calls Try.prog 76 #[.int .i64 k, .int .i64 j] W fun e w' => e = .returned (.int .i64 (bindK k j)) ∧ w' = W) := Lib.hid (r13binds_any k j)
              have HW1 : Hid (IntKind.i64.wrap (v + bindK k j) = v + bindK k j) := Lib.hid (IntWalk.i64_in _ (by omega))
              have HW2 : Hid (IntKind.i64.wrap (d - 1) = d - 1) := Lib.hid (IntWalk.i64_in _ (by omega))
              have hbr : b < wr.heap.size := by have := hwW.out.size; omega
              have hwr1 : w.heap.size < wr.heap.size := by have := hb.out.size; simp at this; omega
              generalize tOne p m (v + bindK k j) (d - 1) k' n' ls' ks = vv at HC HCL
              clear hls' hsl' hf0 hrest hbind
              go_wp2_with fail
              go_region_held3 (fun w' => Hid (Below wr.heap.size wr w') ∧ w'.cell? ⟨w.heap.size, 0, none⟩ = some (.int .i64 k) ∧ w'.cell? ⟨w.heap.size, 3, none⟩ = some (.slice (some ⟨b, o, none⟩) f.len kc) ∧ w'.cell? ⟨b, o + j * 4, none⟩ = some (.int .i64 k') ∧ w'.cell? ⟨b, o + j * 4 + 1, none⟩ = some (.int .i64 n') ∧ w'.cell? ⟨b, o + j * 4 + 2, none⟩ = some (.slice la' ls'.len lc') ∧ w'.cell? ⟨b, o + j * 4 + 3, none⟩ = some (.slice ka' ks.len kc'))
                (first | exact ⟨Lib.hid (Below.refl _ _).drew, c0, c3, e0, e1, e2, e3⟩ | (go_split_ands; exact rrHeld2 (Below.step (Hid.out (by assumption)) hbN (Nat.le_refl _)) hwr1 hbr c0 c3 e0 e1 e2 e3) | (go_split_ands; exact rrHeld2 (Hid.out (by assumption)) hwr1 hbr c0 c3 e0 e1 e2 e3))
                (first | (go_at_call 76; refine (HBI.out _).mono ?_; rintro e wN ⟨rfl, rfl⟩) | (go_at_call 58; go_split_ands; rw [HW1.out, HW2.out]; refine (HCL.out _ (Hid.out (by assumption))).mono ?_; rintro e wN ⟨rfl, hbN⟩))
              go_split_ands
              have hbE := Lib.hid (Below.step hb.out (Hid.out (by assumption : Hid (Below wr.heap.size wr wN))) (by simp))
              have hwE := Lib.hid (hwW.out.trans (Below.mono (Hid.out (by assumption : Hid (Below wr.heap.size wr wN))) hwW.out.size))
              clear c0 c3 e0 e1 e2 e3 HCL HBI HW1 HW2 hbN
              cases vv with
              | true =>
                go_wp2_with fail
                go_roundw
                case rel => exact ⟨j + 1, r', by go_num, Lib.hid (by have := hj.out; simp [Ft.len] at this; omega), Lib.hid (by have := hrs.out; simp [Ft.size] at this; omega), Lib.hid (by rintro b' o' h; cases h; have := (hin.out b o rfl).2.2.2.2; rwa [show o + (j + 1) * 4 = o + j * 4 + 4 by omega]), Lib.hid (by rw [← hall.out, HC.out]; rfl), hbE⟩
                case measure => simp [intOf]; omega
              | false =>
                go_wp2_with fail
                go_ret
                exact ⟨by rw [HX.out, ← hall.out, HC.out]; rfl, hwE.out⟩
      · rw [tOne_len p m v d n ls h2]
        have dl : ((f.len : Int) != tkids k) = true := by rw [bne_iff_ne]; exact h2
        clear h2
        go_enter Try.func58, Try.ntmps58
        go_wp2_with fail
        go_quiet ((go_at_call 74; exact Calls.quiet_of_same (r13kids_any _ _)))
        go_wp2_with fail
        go_ret
        exact ⟨rfl, Below.draws ((Below.refl _ _).alloc (Nat.le_refl _) _) _⟩

set_option maxRecDepth 100000 in
set_option maxHeartbeats 2000000 in
theorem r13Right_any (p m v k n : Int) (ls : Fo) (f : Ft) (la ka : Option Addr) (lc kc B : Nat) (w : World) (hls : SlIn w (· < B) ls la lc) (hsl : TlIn w (· < B) f ka kc) (hB : B ≤ w.heap.size) :
    Calls Try.prog 39 #[.agg #[.int .i64 k, .int .i64 n, .slice la ls.len lc, .slice ka f.len kc], .int .i64 v, .int .i64 p, .int .i64 m] w fun e w' => e = .returned (.bool (tRightB p m v k n ls f)) ∧ Below w.heap.size w w' := by
  have hb : Below w.heap.size w (w.alloc (.cells #[.int .i64 k, .int .i64 n, .slice la ls.len lc, .slice ka f.len kc] 29)) := (Below.refl _ _).alloc (Nat.le_refl _) _
  have HB := Lib.hid hb
  by_cases h1 : 0 ≤ v
  · have d1 : decide (0 ≤ v) = true := decide_eq_true h1
    by_cases h2 : v ≤ 1000
    · have d2 : decide (v ≤ 1000) = true := decide_eq_true h2
      by_cases h3 : 0 ≤ p
      · have d3 : decide (0 ≤ p) = true := decide_eq_true h3
        by_cases h4 : p ≤ 5
        · have d4 : decide (p ≤ 5) = true := decide_eq_true h4
          by_cases h5 : 0 ≤ m
          · have d5 : decide (0 ≤ m) = true := decide_eq_true h5
            by_cases h6 : m ≤ 10
            · have d6 : decide (m ≤ 10) = true := decide_eq_true h6
              have HP := Lib.hid (r13parts_any (f.size + 1) f (Nat.lt_succ_self _) k n 601 ls la ka lc kc B (w.alloc (.cells #[.int .i64 k, .int .i64 n, .slice la ls.len lc, .slice ka f.len kc] 29)) (hsl.below (hb.mono hB)) (by simp; omega) (by omega) (by omega))
              have HR : Hid (∀ W : World, Below w.heap.size w W → Calls Try.prog 58 #[.agg #[.int .i64 k, .int .i64 n, .slice la ls.len lc, .slice ka f.len kc], .int .i64 v, .int .i64 p, .int .i64 m, .int .i64 30] W fun e w' => e = .returned (.bool (tOne p m v 30 k n ls f)) ∧ Below W.heap.size W w') := Lib.hid (by
                intro W h
                exact r13right_any p m (f.size + 1) f (Nat.lt_succ_self _) k n v 30 ls la ka lc kc B W (hls.below (h.mono hB)) (hsl.below (h.mono hB)) (Nat.le_trans hB h.size) (by omega) (by omega) (by omega) (by omega))
              have hpp := partsF_eq f 601 1 (by omega) (by omega)
              have hp0 : 1 ≤ partsF f 601 1 := by omega
              have hp1 : partsF f 601 1 ≤ 601 := by omega
              clear hpp hls hsl hb
              by_cases h7 : partsF f 601 1 ≤ 600
              · have HV := Lib.hid (tRightB_yes (p := p) (m := m) (v := v) k n ls (ks := f) ⟨h1, h2, h3, h4, h5, h6⟩ h7)
                generalize tOne p m v 30 k n ls f = y at HR HV
                generalize tRightB p m v k n ls f = res at HV
                generalize partsF f 601 1 = x at HP h7 hp0 hp1
                go_enter Try.func39, Try.ntmps39
                go_wp2_with fail
                refine HP.out.mono ?_
                rintro e w1 ⟨rfl, hb1⟩
                have hb2 := Lib.hid (Below.step HB.out hb1 (Nat.le_refl _))
                have hb1' : Below (w.heap.size + 1) (w.alloc (.cells #[.int .i64 k, .int .i64 n, .slice la ls.len lc, .slice ka f.len kc] 29)) w1 := by simpa using hb1
                have c0 := bcell hb1' w.heap.size 0 (by omega)
                have c1 := bcell hb1' w.heap.size 1 (by omega)
                have c2 := bcell hb1' w.heap.size 2 (by omega)
                have c3 := bcell hb1' w.heap.size 3 (by omega)
                simp at c0 c1 c2 c3
                clear hb1 hb1'
                go_wp2_with fail
                refine (HR.out _ hb2.out).mono ?_
                rintro e w3 ⟨rfl, hb3⟩
                have HE := Lib.hid (Below.step hb2.out hb3 (Nat.le_refl _))
                clear hb3
                go_wp2_with fail
                go_ret
                exact ⟨by rw [HV.out]; rfl, HE.out⟩
              · have HV := Lib.hid (tRightB_big p m v k n ls h7)
                generalize tRightB p m v k n ls f = res at HV
                generalize partsF f 601 1 = x at HP h7 hp0 hp1
                have d7 : decide (x ≤ 600) = false := decide_eq_false h7
                go_enter Try.func39, Try.ntmps39
                go_wp2_with fail
                refine HP.out.mono ?_
                rintro e w1 ⟨rfl, hb1⟩
                have hb2 := Lib.hid (Below.step HB.out hb1 (Nat.le_refl _))
                clear hb1
                go_wp2_with fail
                go_ret
                exact ⟨by rw [HV.out]; rfl, hb2.out⟩
            · rw [tRightB_out k n ls f (by omega)]
              have d6 : decide (m ≤ 10) = false := decide_eq_false h6
              go_enter Try.func39, Try.ntmps39
              go_wp2_with fail
              go_ret
              exact ⟨rfl, HB.out⟩
          · rw [tRightB_out k n ls f (by omega)]
            have d5 : decide (0 ≤ m) = false := decide_eq_false h5
            go_enter Try.func39, Try.ntmps39
            go_wp2_with fail
            go_ret
            exact ⟨rfl, HB.out⟩
        · rw [tRightB_out k n ls f (by omega)]
          have d4 : decide (p ≤ 5) = false := decide_eq_false h4
          go_enter Try.func39, Try.ntmps39
          go_wp2_with fail
          go_ret
          exact ⟨rfl, HB.out⟩
      · rw [tRightB_out k n ls f (by omega)]
        have d3 : decide (0 ≤ p) = false := decide_eq_false h3
        go_enter Try.func39, Try.ntmps39
        go_wp2_with fail
        go_ret
        exact ⟨rfl, HB.out⟩
    · rw [tRightB_out k n ls f (by omega)]
      have d2 : decide (v ≤ 1000) = false := decide_eq_false h2
      go_enter Try.func39, Try.ntmps39
      go_wp2_with fail
      go_ret
      exact ⟨rfl, HB.out⟩
  · rw [tRightB_out k n ls f (by omega)]
    have d1 : decide (0 ≤ v) = false := decide_eq_false h1
    go_enter Try.func39, Try.ntmps39
    go_wp2_with fail
    go_ret
    exact ⟨rfl, HB.out⟩
set_option maxRecDepth 100000 in
set_option maxHeartbeats 2000000 in
theorem r13Shape_any (k n : Int) (ls : Fo) (f : Ft) (la ka : Option Addr) (lc kc B : Nat) (w : World) (hls : SlIn w (· < B) ls la lc) (hsl : TlIn w (· < B) f ka kc) (hB : B ≤ w.heap.size) :
    Calls Try.prog 26 #[.agg #[.int .i64 k, .int .i64 n, .slice la ls.len lc, .slice ka f.len kc]] w fun e w' => e = .returned (.bool (shB k n ls f)) ∧ Below w.heap.size w w' := by
  have hb : Below w.heap.size w (w.alloc (.cells #[.int .i64 k, .int .i64 n, .slice la ls.len lc, .slice ka f.len kc] 29)) := (Below.refl _ _).alloc (Nat.le_refl _) _
  have HC := Lib.hid (r13Right_any 5 10 1000 k n ls f la ka lc kc B (w.alloc (.cells #[.int .i64 k, .int .i64 n, .slice la ls.len lc, .slice ka f.len kc] 29)) (hls.below (hb.mono hB)) (hsl.below (hb.mono hB)) (by simp; omega))
  have HS : Hid (tRightB 5 10 1000 k n ls f = shB k n ls f) := Lib.hid rfl
  generalize tRightB 5 10 1000 k n ls f = x at HC HS
  clear hls hsl
  go_enter Try.func26, Try.ntmps26
  go_wp2_with fail
  refine HC.out.mono ?_
  rintro e w2 ⟨rfl, hb2⟩
  go_wp2_with fail
  go_ret
  exact ⟨by rw [HS.out]; rfl, Below.step hb hb2 (Nat.le_refl _)⟩
end Go.Proofs.Ythnkoamabfaioaa
/- The contracts of the document's own text of a term and of its own Put: a right term's bytes, or the refusal; they only make new memory. No condition but those that stand in each statement. -/
namespace Go.Proofs.Ythnkoamabfaioaa
open Go.RowKit

/-- Terms whose numbers are small and whose levels are right. -/
def SmT : Ft → Prop
  | .nil => True
  | .cons k n ls ks r => (0 ≤ k ∧ k ≤ 7 ∧ 0 ≤ n ∧ n ≤ 2000 ∧ lvB 5 10 ls = true ∧ ls.len ≤ 5) ∧ SmT ks ∧ SmT r
theorem SmT.app : ∀ {f g : Ft}, SmT (f.app g) → SmT f ∧ SmT g
  | .nil, _, h => ⟨trivial, h⟩
  | .cons .., _, h => ⟨⟨h.1, h.2.1, (SmT.app h.2.2).1⟩, (SmT.app h.2.2).2⟩
theorem smT_of : ∀ (F : Ft) (k0 : Int) (i : Nat) (v d : Int), v + d ≤ 2000 → tAll 5 10 F k0 i v d = true → SmT F
  | .nil, _, _, _, _, _, _ => trivial
  | .cons k n ls ks r, k0, i, v, d, hv, h => by
    unfold tAll at h
    simp only [Bool.and_eq_true, decide_eq_true_eq] at h
    obtain ⟨⟨h0, h1, h2⟩, h3⟩ := h
    have hb := bindK_nn k0 i
    refine ⟨?_, smT_of ks k 0 _ _ (by omega) h2, smT_of r k0 (i + 1) v d hv h3⟩
    rcases tfits_cases h1 with ⟨rfl, a, b, rfl, _⟩ | ⟨rfl, rfl, a, b, _⟩ | ⟨rfl, a, b, c, e, _⟩ | ⟨hk, rfl, rfl⟩
    · exact ⟨by omega, by omega, a, by omega, rfl, by simp [Fo.len]⟩
    · exact ⟨by omega, by omega, by omega, by omega, b, by omega⟩
    · exact ⟨by omega, by omega, a, by omega, e, c⟩
    · exact ⟨by omega, by omega, by omega, by omega, rfl, by simp [Fo.len]⟩
theorem lvB_len : ∀ {F : Fo}, lvB 5 10 F = true → (encF F).length ≤ 200 * F.len
  | .nil, _ => by simp [encF]
  | .cons k n ks r, h => by
    simp only [lvB, Bool.and_eq_true] at h
    have h1 := right_len h.1
    have h2 := lvB_len h.2
    have e : encF (.cons k n ks r) = encL k n ks ++ encF r := by simp only [encF, encL, List.append_assoc]
    rw [e, List.length_append]
    simp only [Fo.len]; omega
theorem lvB_app4 {p m : Int} : ∀ {F G : Fo}, lvB p m (F.app G) = true ↔ lvB p m F = true ∧ lvB p m G = true
  | .nil, _ => by simp [Fo.app, lvB]
  | .cons k n ks r, G => by
    simp only [Fo.app, lvB, Bool.and_eq_true, lvB_app4 (F := r) (G := G), and_assoc]
theorem enc_two {n : Nat} (h : n ≤ 10000) : (enc n).length ≤ 2 := enc_len 1 n (by omega)
theorem encTh_len {k n : Int} {ls : Fo} (h : 0 ≤ k ∧ k ≤ 7 ∧ 0 ≤ n ∧ n ≤ 2000 ∧ lvB 5 10 ls = true ∧ ls.len ≤ 5) : (encTh k n ls).length ≤ 1006 := by
  have h1 := lvB_len h.2.2.2.2.1
  have h2 : (enc k.toNat).length ≤ 2 := enc_two (by omega)
  have h3 : (enc n.toNat).length ≤ 2 := enc_two (by omega)
  have h4 : (enc ls.len).length ≤ 2 := enc_two (by omega)
  have h5 : (if k = 1 ∨ k = 3 then enc n.toNat else []).length ≤ 2 := by
    split
    · exact h3
    · exact Nat.zero_le _
  have h6 : (if k = 3 then enc ls.len else []).length ≤ 2 := by
    split
    · exact h4
    · exact Nat.zero_le _
  unfold encTh
  simp only [List.length_append]
  omega
theorem encTF_len : ∀ (F : Ft), SmT F → (encTF F).length ≤ 1006 * F.size
  | .nil, _ => by simp [encTF]
  | .cons k n ls ks r, h => by
    have h1 := encTh_len h.1
    have h2 := encTF_len ks h.2.1
    have h3 := encTF_len r h.2.2
    simp only [encTF, List.length_append, Ft.size]; omega
/-- What both Puts answer. -/
def tputV (k n : Int) (ls : Fo) (ks : Ft) : Value := if shB k n ls ks = true then .tuple #[.string (strOfNums (encT k n ls ks)), .int .i64 0] else .tuple #[.string (strOfNums []), .int .i64 1]
theorem tputV_yes {k n : Int} {ls : Fo} {ks : Ft} (h : shB k n ls ks = true) : tputV k n ls ks = .tuple #[.string (strOfNums (encT k n ls ks)), .int .i64 0] := if_pos h
theorem tputV_no {k n : Int} {ls : Fo} {ks : Ft} (h : shB k n ls ks = false) : tputV k n ls ks = .tuple #[.string (strOfNums []), .int .i64 1] := if_neg (by rw [h]; simp)
theorem sh_smT {k n : Int} {ls : Fo} {ks : Ft} (h : shB k n ls ks = true) : SmT (.cons k n ls ks .nil) ∧ (encT k n ls ks).length ≤ 610000 := by
  obtain ⟨h1, h2, h3⟩ := shB_parts h
  have hs : SmT (.cons k n ls ks .nil) := smT_of _ 0 0 1000 30 (by omega) (by
    rw [tAll_cons, show bindK 0 0 = 0 by simp [bindK]]
    unfold tOne
    simp only [tAll, Bool.and_true, Bool.and_eq_true, decide_eq_true_eq, Int.add_zero]
    exact ⟨by omega, h2, h3⟩)
  have := encTF_len _ hs
  rw [encTF_one] at this
  simp only [Ft.size] at this
  exact ⟨hs, by omega⟩
theorem add_many (a b : List Int) (ha : a.length ≤ 1000000) (hb : b.length ≤ 1000000) (W : World) : (Op.stringOp .add (strOfNums a) (strOfNums b)).run Try.prog W = .ok (.string (strOfNums (a ++ b))) W := by
  rw [run_string_add_sum W _ _ (by rw [strOfNums_size, strOfNums_size]; omega), strOfNums_append]
set_option maxRecDepth 100000 in
set_option maxHeartbeats 1000000 in
theorem r14num_any (k : Int) (h0 : 0 ≤ k) (h1 : k ≤ 100000) (w : World) : Calls Try.prog 40 #[.int .i64 k] w fun e w' => e = .returned (.string (strOfNums (enc k.toNat))) ∧ Below w.heap.size w w' := by
  have HP := Lib.hid (rput_any k.toNat (by omega) w)
  rw [show ((k.toNat : Nat) : Int) = k by omega] at HP
  go_enter Try.func40, Try.ntmps40
  go_wp2_with fail
  refine HP.out.mono ?_
  rintro e w1 ⟨rfl, hb⟩
  go_wp2_with fail
  go_ret
  exact ⟨rfl, hb⟩
/-- What stands in slots while the document's own text goes through the Levels, through the Kids. -/
def TvR (w : World) (B : Nat) (F : Fo) (x : Option Addr) (pre : List Int) (t : ByteArray) (j : Nat) (rr : Fo) : Prop :=
  ∃ done : Fo, done.app rr = F ∧ done.len = j ∧ t = strOfNums (pre ++ encF done) ∧ (∀ b i, x = some ⟨b, i, none⟩ → FoIn w (· < B) rr b (i + j * 3))
def TkR (w : World) (B : Nat) (F : Ft) (x : Option Addr) (pre : List Int) (t : ByteArray) (j : Nat) (rr : Ft) : Prop :=
  ∃ done : Ft, done.app rr = F ∧ done.len = j ∧ t = strOfNums (pre ++ encTF done) ∧ (∀ b i, x = some ⟨b, i, none⟩ → FtIn w (· < B) rr b (i + j * 4))
theorem boxed4 {w w1 : World} {x y z u : Value} (hb : Below (w.alloc (.cells #[x, y, z, u] 29)).heap.size (w.alloc (.cells #[x, y, z, u] 29)) w1) :
    w1.cell? ⟨w.heap.size, 0, none⟩ = some x ∧ w1.cell? ⟨w.heap.size, 1, none⟩ = some y ∧ w1.cell? ⟨w.heap.size, 2, none⟩ = some z ∧ w1.cell? ⟨w.heap.size, 3, none⟩ = some u ∧ w.heap.size < w1.heap.size := by
  have h := (hb.block w.heap.size (by simp)).trans (heap_new w (.cells #[x, y, z, u] 29))
  exact ⟨cell_at h 0, cell_at h 1, cell_at h 2, cell_at h 3, lt_of_block h⟩
set_option maxRecDepth 100000 in
set_option maxHeartbeats 8000000 in
theorem r14text_any (s : Nat) : ∀ (F : Ft), F.size < s → ∀ (k n : Int) (ls : Fo) (la x : Option Addr) (lc c B : Nat) (w : World), SlIn w (· < B) ls la lc → TlIn w (· < B) F x c → B ≤ w.heap.size → SmT (.cons k n ls F .nil) → (encT k n ls F).length ≤ 1000000 →
    Calls Try.prog 27 #[.agg #[.int .i64 k, .int .i64 n, .slice la ls.len lc, .slice x F.len c]] w fun e w' => e = .returned (.string (strOfNums (encT k n ls F))) ∧ Below w.heap.size w w' := by
  induction s with
  | zero => intro f hs; omega
  | succ s ih =>
    intro F hs k n ls la x lc c B w hls hsl hB hsm hpl
    have IH := Lib.hid ih
    clear ih
    have hlen := hsl.len
    have hlenl := hls.len
    have HSM := Lib.hid hsm
    obtain ⟨⟨hk0, hk7, hn0, hn9, hlv, hl5⟩, _, _⟩ := hsm
    have HLV := Lib.hid hlv
    have HPL := Lib.hid hpl
    have hek : (enc k.toNat).length ≤ 2 := enc_two (by omega)
    have hen : (enc n.toNat).length ≤ 2 := enc_two (by omega)
    have hel : (enc ls.len).length ≤ 2 := enc_two (by omega)
    have hbx : Below w.heap.size w (w.alloc (.cells #[.int .i64 k, .int .i64 n, .slice la ls.len lc, .slice x F.len c] 29)) := (Below.refl _ _).alloc (Nat.le_refl _) _
    clear hpl hlv
    obtain ⟨P, hP⟩ : ∃ P, P = enc k.toNat ++ ((if k = 1 ∨ k = 3 then enc n.toNat else []) ++ (if k = 3 then enc ls.len else [])) := ⟨_, rfl⟩
    have hTh : encTh k n ls = P ++ encF ls := by rw [hP]; simp only [encTh, List.append_assoc]
    have HTH := Lib.hid hTh
    have hways : (Hid (P = enc k.toNat ++ enc n.toNat) ∧ (k == 1) = true ∧ (k == 3) = false) ∨ (Hid (P = (enc k.toNat ++ enc n.toNat) ++ enc ls.len) ∧ (k == 1) = false ∧ (k == 3) = true) ∨ (Hid (P = enc k.toNat) ∧ (k == 1) = false ∧ (k == 3) = false) := by
      by_cases h1 : k = 1
      · exact .inl ⟨Lib.hid (by rw [hP, if_pos (.inl h1), if_neg (by omega)]; simp), beq_iff_eq.2 h1, beq_eq_false_iff_ne.2 (by omega)⟩
      by_cases h3 : k = 3
      · exact .inr (.inl ⟨Lib.hid (by rw [hP, if_pos (.inr h3), if_pos h3]; simp), beq_eq_false_iff_ne.2 h1, beq_iff_eq.2 h3⟩)
      · exact .inr (.inr ⟨Lib.hid (by rw [hP, if_neg (by omega), if_neg h3]; simp), beq_eq_false_iff_ne.2 h1, beq_eq_false_iff_ne.2 h3⟩)
    clear hP hTh
    go_enter Try.func27, Try.ntmps27
    go_wp2_with fail
    refine (r14num_any k hk0 (by omega) _).mono ?_
    rintro e w1 ⟨rfl, hb1⟩
    obtain ⟨c0, c1, c2, c3, z1⟩ := boxed4 hb1
    rcases hways with ⟨HH, q1, q3⟩ | ⟨HH, q1, q3⟩ | ⟨HH, q1, q3⟩
    case' inl =>
      go_wp2_with fail
      refine (r14num_any n hn0 (by omega) _).mono ?_
      rintro e wS ⟨rfl, hb2⟩
      have HBS := Lib.hid (Below.step hb1 hb2 (Nat.le_refl _))
      obtain ⟨b0, b1, b2, b3, z2⟩ := boxed4 HBS.out
      have hadd := add_many (enc k.toNat) (enc n.toNat) (by omega) (by omega)
      rw [← HH.out] at hadd
      clear hb1 hb2 c0 c1 c2 c3
      go_wp2_with fail
      clear b0 b1 b2 b3
    case' inr.inl =>
      go_wp2_with fail
      refine (r14num_any n hn0 (by omega) _).mono ?_
      rintro e w2 ⟨rfl, hb2⟩
      have HBS2 := Lib.hid (Below.step hb1 hb2 (Nat.le_refl _))
      obtain ⟨b0, b1, b2, b3, z2⟩ := boxed4 HBS2.out
      have hadd := add_many (enc k.toNat) (enc n.toNat) (by omega) (by omega)
      have hadd3 := add_many (enc k.toNat ++ enc n.toNat) (enc ls.len) (by rw [List.length_append]; omega) (by omega)
      clear hb1 hb2 c0 c1 c2 c3
      go_wp2_with fail
      refine (r14num_any (ls.len : Int) (by omega) (by omega) _).mono ?_
      rintro e wS ⟨rfl, hb3⟩
      have HBS := Lib.hid (Below.step HBS2.out hb3 (Nat.le_refl _))
      rw [← HH.out] at hadd3
      rw [Int.toNat_natCast]
      clear hb3 hadd b0 b1 b2 b3
      go_wp2_with fail
    case' inr.inr =>
      have HBS := Lib.hid hb1
      obtain ⟨wS, rfl⟩ : ∃ u, u = w1 := ⟨w1, rfl⟩
      have hadd := HH.out
      rw [← HH.out]
      clear hb1 hadd
      go_wp2_with fail
    all_goals
      go_loopw [3, 4] (fun o i wr => ∃ (j : Nat) (rr : Fo) (t : ByteArray), o = .string t ∧ i = .int .i64 j ∧ Hid (j + rr.len = ls.len) ∧ Hid (TvR w B ls la P t j rr) ∧ Below (w.heap.size + 1) (w.alloc (.cells #[.int .i64 k, .int .i64 n, .slice la ls.len lc, .slice x F.len c] 29)) wr) (fun _ i _ => ls.len - (intOf i).toNat)
      case atStart => exact ⟨0, ls, _, rfl, rfl, Lib.hid (by omega), Lib.hid ⟨.nil, rfl, rfl, by simp [encF], by rintro b i rfl; simpa using hls.foIn⟩, by simpa using HBS.out⟩
      case round =>
        obtain ⟨j, rr, t, rfl, rfl, hj, hR, hb⟩ := hrel
        obtain ⟨d0, d1, d2, d3, z5⟩ := boxed4 (w := w) (by simpa using hb)
        have hwr : Below w.heap.size w wr := hbx.trans (hb.mono (by omega))
        cases rr with
        | nil =>
          have hlt : ¬ (j : Int) < (ls.len : Int) := by have := hj.out; simp [Fo.len] at this; omega
          have d' : decide ((j : Int) < (ls.len : Int)) = false := by simpa using hlt
          obtain ⟨done, r1, _, rfl, _⟩ := hR.out
          rw [Fo.app_nil] at r1
          subst r1
          have HBS3 := Lib.hid hb
          clear hb hR hwr HBS
          go_wp2_with fail
          go_loopw [3, 7] (fun o i wr => ∃ (j : Nat) (rr : Ft) (t : ByteArray), o = .string t ∧ i = .int .i64 j ∧ Hid (j + rr.len = F.len) ∧ Hid (TkR w B F x (encTh k n done) t j rr) ∧ Below (w.heap.size + 1) (w.alloc (.cells #[.int .i64 k, .int .i64 n, .slice la done.len lc, .slice x F.len c] 29)) wr) (fun _ i _ => F.len - (intOf i).toNat)
          case atStart => exact ⟨0, F, _, rfl, rfl, Lib.hid (by omega), Lib.hid ⟨.nil, rfl, rfl, by simp [encTF, HTH.out], by rintro b i rfl; simpa using hsl.ftIn⟩, HBS3.out⟩
          case round =>
            clear HBS3 d0 d1 d2 d3 hj
            obtain ⟨j, rr, t, rfl, rfl, hj, hR, hb⟩ := hrel
            obtain ⟨d0, d1, d2, d3, z5⟩ := boxed4 (w := w) (by simpa using hb)
            have hwr : Below w.heap.size w wr := hbx.trans (hb.mono (by omega))
            cases rr with
            | nil =>
              have hlt : ¬ (j : Int) < (F.len : Int) := by have := hj.out; simp [Ft.len] at this; omega
              have d' : decide ((j : Int) < (F.len : Int)) = false := by simpa using hlt
              obtain ⟨done2, r1, _, rfl, _⟩ := hR.out
              rw [Ft.app_nil] at r1
              have R1 := Lib.hid r1
              clear r1
              go_wp2_with fail
              go_ret
              exact ⟨by rw [R1.out]; rfl, hwr⟩
            | cons k' n' ls' ks r' =>
              have hlt : j < F.len := by have := hj.out; simp [Ft.len] at this; omega
              have hlt' : (j : Int) < (F.len : Int) := by omega
              obtain ⟨b, o, rfl, hbB, hf0⟩ := hsl.some (by omega)
              obtain ⟨done2, r1, r2, rfl, r6⟩ := hR.out
              obtain ⟨e0, e1, ⟨la', lc', e2, hls'⟩, ⟨ka', kc', e3, hsl'⟩, _⟩ := ((r6 b o rfl).below (hwr.mono hB) _ _ _ hbB).first
              have hsmd : Hid (SmT (.cons k' n' ls' ks .nil)) := Lib.hid (by
                have h := HSM.out.2.1
                rw [← r1] at h
                have := (SmT.app h).2
                exact ⟨this.1, this.2.1, trivial⟩)
              have hks : Hid (ks.size < s) := Lib.hid (by have := congrArg Ft.size r1; rw [Ft.app_size] at this; simp only [Ft.size] at this; omega)
              have hpl' : (encTh k n done ++ encTF done2).length ≤ 1000000 ∧ (encT k' n' ls' ks).length ≤ 1000000 := by
                have h := HPL.out
                rw [encT, ← r1, encTF_app] at h
                simp only [encTF, encT, List.length_append] at h ⊢
                omega
              have hadd2 := add_many (encTh k n done ++ encTF done2) (encT k' n' ls' ks) hpl'.1 hpl'.2
              have HNX : Hid (TkR w B F (some ⟨b, o, none⟩) (encTh k n done) (strOfNums (encTh k n done ++ encTF done2 ++ encT k' n' ls' ks)) (j + 1) r') := Lib.hid ⟨done2.app (.cons k' n' ls' ks .nil), by rw [Ft.app_assoc]; exact r1, by rw [Ft.app_len, r2]; rfl, by rw [encTF_app, encTF_one, List.append_assoc], by
                rintro b1 i1 h
                cases h
                have := FtIn.behind (.cons k' n' ls' ks .nil) r' b (o + j * 4) (r6 b o rfl)
                simp only [Ft.len] at this
                rwa [show o + (j + 1) * 4 = o + j * 4 + (0 + 1) * 4 by omega]⟩
              have HSL : Hid (SlIn wr (· < B) ls' la' lc' ∧ TlIn wr (· < B) ks ka' kc') := Lib.hid ⟨hls', hsl'⟩
              have HPLK := Lib.hid hpl'
              clear r1 r2 r6 hsl' hls' hf0 hpl'
              go_wp2_with fail
              refine (IH.out ks hks.out k' n' ls' la' ka' lc' kc' B _ HSL.out.1 HSL.out.2 (by have := hwr.size; omega) hsmd.out HPLK.out.2).mono ?_
              rintro e w2 ⟨rfl, hb2⟩
              have HB2 := Lib.hid (Below.step hb hb2 (by simp))
              clear hb2 HSL e0 e1 e2 e3 d0 d1 d2 d3
              go_wp2_with fail
              go_roundw
              case rel => exact ⟨j + 1, r', _, rfl, by go_num, Lib.hid (by have := hj.out; simp [Ft.len] at this; omega), Lib.hid (by first | exact HNX.out | (rw [← List.append_assoc]; exact HNX.out)), HB2.out⟩
              case measure => simp [intOf]; omega
        | cons k' n' ks r' =>
          have hlt : j < ls.len := by have := hj.out; simp [Fo.len] at this; omega
          have hlt' : (j : Int) < (ls.len : Int) := by omega
          obtain ⟨b, o, rfl, hbB, hf0⟩ := hls.some (by omega)
          obtain ⟨done, r1, r2, rfl, r6⟩ := hR.out
          obtain ⟨e0, e1, ⟨a', cap', e2, hsl'⟩, _⟩ := ((r6 b o rfl).below (hwr.mono hB) _ _ _ hbB).first
          have hrt : Hid (rightB 5 10 k' n' ks = true ∧ (encF (done.app (.cons k' n' ks .nil))).length ≤ 1000) := Lib.hid (by
            have h := HLV.out
            rw [← r1] at h
            have h1 := lvB_app4.1 h
            have h2 := h1.2
            simp only [lvB, Bool.and_eq_true] at h2
            refine ⟨h2.1, ?_⟩
            have h3 := lvB_len (F := done.app (.cons k' n' ks .nil)) (lvB_app4.2 ⟨h1.1, by simp [lvB, h2.1]⟩)
            rw [Fo.app_len] at h3
            have h4 := congrArg Fo.len r1
            rw [Fo.app_len] at h4
            simp only [Fo.len] at h3 h4
            omega)
          have hPl : P.length ≤ 6 := by
            have h := HH.out
            rw [h]
            first | (simp only [List.length_append]; omega) | omega
          have hadd2 := add_many (P ++ encF done) (encL k' n' ks) (by have h := hrt.out.2; rw [encF_app, List.length_append] at h; rw [List.length_append]; omega) (by have := (right_len hrt.out.1).1; omega)
          have HNX : Hid (TvR w B ls (some ⟨b, o, none⟩) P (strOfNums (P ++ encF done ++ encL k' n' ks)) (j + 1) r') := Lib.hid ⟨done.app (.cons k' n' ks .nil), by rw [Fo.app_assoc]; exact r1, by rw [Fo.app_len, r2]; rfl, by rw [encF_app, encF_one, List.append_assoc], by
            rintro b1 i1 h
            cases h
            have := (r6 b o rfl).2.2.2
            rwa [show o + (j + 1) * 3 = o + j * 3 + 3 by omega]⟩
          have HSL : Hid (SlIn wr (· < B) ks a' cap') := Lib.hid hsl'
          clear r1 r2 r6 hsl' hf0
          go_wp2_with fail
          have HC := rlPut_any k' n' ks a' cap' B wr HSL.out (by have := hwr.size; omega)
          rw [lputV_yes hrt.out.1] at HC
          refine HC.mono ?_
          rintro e w2 ⟨rfl, hb2⟩
          have HB2 := Lib.hid (Below.step hb hb2 (by simp))
          clear hb2 HSL HC e0 e1 e2 d0 d1 d2 d3
          go_wp2_with fail
          go_roundw
          case rel => exact ⟨j + 1, r', _, rfl, by go_num, Lib.hid (by have := hj.out; simp [Fo.len] at this; omega), Lib.hid (by first | exact HNX.out | (rw [← List.append_assoc]; exact HNX.out)), HB2.out⟩
          case measure => simp [intOf]; omega

set_option maxRecDepth 100000 in
set_option maxHeartbeats 2000000 in
theorem r14Put_any (k n : Int) (ls : Fo) (F : Ft) (la x : Option Addr) (lc c B : Nat) (w : World) (hls : SlIn w (· < B) ls la lc) (hsl : TlIn w (· < B) F x c) (hB : B ≤ w.heap.size) :
    Calls Try.prog 15 #[.agg #[.int .i64 k, .int .i64 n, .slice la ls.len lc, .slice x F.len c]] w fun e w' => e = .returned (tputV k n ls F) ∧ Below w.heap.size w w' := by
  have HR := Lib.hid (fun (W : World) (h0 : SlIn W (· < B) ls la lc) (h1 : TlIn W (· < B) F x c) (h2 : B ≤ W.heap.size) => r13Shape_any k n ls F la x lc c B W h0 h1 h2)
  have hbx : Below w.heap.size w (w.alloc (.cells #[.int .i64 k, .int .i64 n, .slice la ls.len lc, .slice x F.len c] 29)) := (Below.refl _ _).alloc (Nat.le_refl _) _
  have hs0 := hls.below (hbx.mono hB)
  have hs1 := hsl.below (hbx.mono hB)
  cases hv : shB k n ls F with
  | false =>
    rw [tputV_no hv]
    rw [hv] at HR
    clear hv
    go_enter Try.func15, Try.ntmps15
    go_wp2_with fail
    refine (HR.out _ hs0 hs1 (by simp; omega)).mono ?_
    rintro e w1 ⟨rfl, hb1⟩
    go_wp2_with fail
    go_ret2
    exact ⟨rfl, Below.step hbx hb1 (Nat.le_refl _)⟩
  | true =>
    rw [tputV_yes hv]
    have HSM := Lib.hid (sh_smT hv)
    rw [hv] at HR
    clear hv
    go_enter Try.func15, Try.ntmps15
    go_wp2_with fail
    refine (HR.out _ hs0 hs1 (by simp; omega)).mono ?_
    rintro e w1 ⟨rfl, hb1⟩
    obtain ⟨c0, c1, c2, c3, z1⟩ := boxed4 hb1
    have hw1 := Lib.hid (Below.step hbx hb1 (Nat.le_refl _))
    have hs2 := Lib.hid (And.intro (hls.below (hw1.out.mono hB)) (hsl.below (hw1.out.mono hB)))
    clear hb1 hs0 hs1
    go_wp2_with fail
    refine (r14text_any (F.size + 1) F (Nat.lt_succ_self _) k n ls la x lc c B w1 hs2.out.1 hs2.out.2 (by omega) HSM.out.1 (by have := HSM.out.2; omega)).mono ?_
    rintro e w2 ⟨rfl, hb2⟩
    go_wp2
    go_ret2
    exact ⟨rfl, Below.step hw1.out hb2 (Nat.le_refl _)⟩
end Go.Proofs.Ythnkoamabfaioaa
/- A level that may be so deep may be deeper. -/
namespace Go.Proofs.Ythnkoamabfaioaa
open Go

theorem rNode_mono {p m k n : Int} {len : Nat} {d d' : Int} {sub sub' : Bool} (h : rNode p m k n len d sub = true) (hd : d ≤ d') (hs : sub = true → sub' = true) : rNode p m k n len d' sub' = true := by
  unfold rNode at h ⊢
  have h1 : ¬ d < 1 := by intro hh; rw [if_pos hh] at h; cases h
  rw [if_neg h1] at h
  rw [if_neg (by omega)]
  split at h
  · cases h
  · rename_i h2
    rw [if_neg h2]
    split at h
    · rename_i h5; rw [if_pos h5]; exact h
    · rename_i h5
      rw [if_neg h5]
      split at h
      · rename_i h6; rw [if_pos h6]; exact h
      · rename_i h6
        rw [if_neg h6]
        rw [Bool.and_eq_true] at h ⊢
        exact ⟨hs h.1, h.2⟩
theorem rAll_mono {p m : Int} : ∀ {f : Fo} {d d' : Int}, rAll p m f d = true → d ≤ d' → rAll p m f d' = true
  | .nil, _, _, _, _ => rfl
  | .cons k n ks r, d, d', h, hd => by
    unfold rAll at h ⊢
    rw [Bool.and_eq_true] at h ⊢
    exact ⟨rNode_mono h.1 hd (fun h => rAll_mono h (by omega)), rAll_mono h.2 hd⟩
end Go.Proofs.Ythnkoamabfaioaa
/- Lifting and putting in, as plain mathematics: one behind the other; which terms stay well-formed. -/
namespace Go.Proofs.Ythnkoamabfaioaa
open Go

def Tm.rep (g : Int → Int → Tm) (T : Tm) (b : Int) : Tm := rep1 g T.k T.n T.ls T.ks b
theorem rep_V (g : Int → Int → Tm) (n b : Int) : (tV n).rep g b = g n b := by
  show (if (1 : Int) = 1 then g n b else (⟨1, n, .nil, repF g .nil 1 0 b⟩ : Tm)) = g n b
  exact if_pos rfl
theorem rep_is (g : Int → Int → Tm) (k n : Int) (ls : Fo) (ks : Ft) (b : Int) : (⟨k, n, ls, ks⟩ : Tm).rep g b = if k = 1 then g n b else ⟨k, n, ls, repF g ks k 0 b⟩ := rfl
theorem gL_ge {fr by' n b : Int} (h : fr + b ≤ n) : gL fr by' n b = tV (n + by') := by unfold gL; rw [if_pos h]
theorem gL_lt {fr by' n b : Int} (h : ¬ fr + b ≤ n) : gL fr by' n b = tV n := by unfold gL; rw [if_neg h]
theorem gO_eq {U : Tm} {n b : Int} (h : n = b) : gO U n b = U.rep (gL 0 b) 0 := by unfold gO; rw [if_pos h]; rfl
theorem gO_gt {U : Tm} {n b : Int} (h : b < n) : gO U n b = tV (n - 1) := by unfold gO; rw [if_neg (by omega), if_pos h]
theorem gO_lt {U : Tm} {n b : Int} (h : n < b) : gO U n b = tV n := by unfold gO; rw [if_neg (by omega), if_neg (by omega)]
theorem repF_to (g : Int → Int → Tm) (T : Tm) (r : Ft) (k0 : Int) (i : Nat) (b : Int) : repF g (T.to r) k0 i b = (T.rep g (b + bindK k0 i)).to (repF g r k0 (i + 1) b) := rfl
theorem repF_comp (g1 g2 : Int → Int → Tm) (c : Int) : ∀ (f : Ft) (k0 : Int) (i : Nat) (b : Int), repF g2 (repF g1 f k0 i b) k0 i (b + c) = repF (fun n x => (g1 n x).rep g2 (x + c)) f k0 i b
  | .nil, _, _, _ => rfl
  | .cons k n ls ks r, k0, i, b => by
    rw [repF_cons, repF_to, repF_cons, repF_comp g1 g2 c r]
    congr 1
    unfold rep1 Tm.rep
    by_cases hk : k = 1
    · rw [if_pos hk, if_pos hk, show b + c + bindK k0 i = b + bindK k0 i + c by omega]
    · rw [if_neg hk, if_neg hk]
      unfold rep1
      rw [if_neg hk, show b + c + bindK k0 i = b + bindK k0 i + c by omega, repF_comp g1 g2 c ks]
      rfl
theorem rep_comp (g1 g2 : Int → Int → Tm) (c : Int) (T : Tm) (b : Int) : (T.rep g1 b).rep g2 (b + c) = T.rep (fun n x => (g1 n x).rep g2 (x + c)) b := by
  obtain ⟨k, n, ls, ks⟩ := T
  have e1 := rep_is g1 k n ls ks b
  have e2 := rep_is (fun n x => (g1 n x).rep g2 (x + c)) k n ls ks b
  rw [e1, e2]
  by_cases hk : k = 1
  · rw [if_pos hk, if_pos hk]
  · have e3 := rep_is g2 k n ls (repF g1 ks k 0 b) (b + c)
    rw [if_neg hk, if_neg hk, e3, if_neg hk, repF_comp]
theorem repF_ext {g g' : Int → Int → Tm} {b0 : Int} (h : ∀ n x, b0 ≤ x → g n x = g' n x) : ∀ (f : Ft) (k0 : Int) (i : Nat) (b : Int), b0 ≤ b → repF g f k0 i b = repF g' f k0 i b
  | .nil, _, _, _, _ => rfl
  | .cons k n ls ks r, k0, i, b, hb => by
    have h1 := bindK_le k0 i
    rw [repF_cons, repF_cons, repF_ext h r k0 (i + 1) b hb]
    congr 1
    unfold rep1
    by_cases hk : k = 1
    · rw [if_pos hk, if_pos hk, h n _ (by omega)]
    · rw [if_neg hk, if_neg hk, repF_ext h ks k 0 _ (by omega)]
theorem rep_ext {g g' : Int → Int → Tm} {b : Int} (h : ∀ n x, b ≤ x → g n x = g' n x) (T : Tm) : T.rep g b = T.rep g' b := by
  unfold Tm.rep rep1
  by_cases hk : T.k = 1
  · rw [if_pos hk, if_pos hk, h _ _ (by omega)]
  · rw [if_neg hk, if_neg hk, repF_ext h _ _ _ _ (by omega)]
theorem repF_zero {N fr : Int} : ∀ (f : Ft) (k0 : Int) (i : Nat) (b : Int), wfF N f → repF (gL fr 0) f k0 i b = f
  | .nil, _, _, _, _ => rfl
  | .cons k n ls ks r, k0, i, b, h => by
    obtain ⟨h1, h2⟩ := wfF_parts h
    rw [repF_cons, repF_zero r k0 (i + 1) b h2]
    unfold rep1
    by_cases hk : k = 1
    · subst hk
      obtain ⟨e1, e2, _, _⟩ := wf1_leaf h1
      subst e1 e2
      rw [if_pos rfl]
      unfold gL tV
      simp [Tm.to]
    · rw [if_neg hk, repF_zero ks k 0 _ h1.2.2]
      rfl
theorem rep_zero {N fr b : Int} {T : Tm} (h : wf1 N T.k T.n T.ls T.ks) : T.rep (gL fr 0) b = T := by
  obtain ⟨k, n, ls, ks⟩ := T
  unfold Tm.rep rep1
  by_cases hk : k = 1
  · simp only at hk h ⊢
    subst hk
    obtain ⟨e1, e2, _, _⟩ := wf1_leaf h
    subst e1 e2
    rw [if_pos rfl]
    unfold gL tV
    simp
  · simp only at hk h ⊢
    rw [if_neg hk, repF_zero ks k 0 _ h.2.2]

/-- Lift by two numbers is Lift by both. -/
theorem lift_lift {fr a b : Int} (ha : 0 ≤ a) (T : Tm) : (T.rep (gL fr a) 0).rep (gL fr b) 0 = T.rep (gL fr (a + b)) 0 := by
  have h := rep_comp (gL fr a) (gL fr b) 0 T 0
  rw [Int.add_zero] at h
  rw [h]
  refine rep_ext (fun n x hx => ?_) T
  rw [Int.add_zero]
  by_cases hc : fr + x ≤ n
  · rw [gL_ge hc, gL_ge hc, rep_V, gL_ge (by omega)]; congr 1; omega
  · rw [gL_lt hc, gL_lt hc, rep_V, gL_lt hc]
/-- Lift above what was lifted. -/
theorem lift_above {b c : Int} (hc : 0 ≤ c) (T : Tm) : (T.rep (gL 0 c) 0).rep (gL 0 b) c = T.rep (gL 0 (b + c)) 0 := by
  have h := rep_comp (gL 0 c) (gL 0 b) c T 0
  rw [Int.zero_add] at h
  rw [h]
  refine rep_ext (fun n x hx => ?_) T
  by_cases hn : 0 + x ≤ n
  · rw [gL_ge hn, gL_ge hn, rep_V, gL_ge (by omega)]; congr 1; omega
  · rw [gL_lt hn, gL_lt hn, rep_V, gL_lt (by omega)]
/-- Open takes one of what was lifted away. -/
theorem open_lifted {b : Int} (hb : 0 ≤ b) (w T : Tm) : (T.rep (gL 0 (b + 1)) 0).rep (gO w) b = T.rep (gL 0 b) 0 := by
  have h := rep_comp (gL 0 (b + 1)) (gO w) b T 0
  rw [Int.zero_add] at h
  rw [h]
  refine rep_ext (fun n x hx => ?_) T
  by_cases hn : 0 + x ≤ n
  · rw [gL_ge hn, gL_ge hn, rep_V, gO_gt (by omega)]; congr 1; omega
  · rw [gL_lt hn, gL_lt hn, rep_V, gO_lt (by omega)]
/-- OPEN UNDOES LIFT BY 1. -/
theorem open_lift {N : Int} {T : Tm} (u : Tm) (h : wf1 N T.k T.n T.ls T.ks) : (T.rep (gL 0 1) 0).rep (gO u) 0 = T := by
  have h1 := open_lifted (b := 0) (by omega) u T
  rw [Int.zero_add] at h1
  rw [h1, rep_zero h]
/-- Open of what was lifted as a whole. -/
theorem open_above {b : Int} (hb : 0 ≤ b) (v U : Tm) : (U.rep (gL 0 b) 0).rep (gO v) b = (U.rep (gO v) 0).rep (gL 0 b) 0 := by
  have h1 := rep_comp (gL 0 b) (gO v) b U 0
  have h2 := rep_comp (gO v) (gL 0 b) 0 U 0
  rw [Int.zero_add] at h1
  rw [Int.add_zero] at h2
  rw [h1, h2]
  refine rep_ext (fun n x hx => ?_) U
  rw [Int.add_zero]
  by_cases hn : n = x
  · rw [gL_ge (by omega), rep_V, gO_eq (by omega), gO_eq hn, lift_above hx, Int.add_comm b x]
  · by_cases hm : x < n
    · rw [gL_ge (by omega), rep_V, gO_gt (by omega), gO_gt hm, rep_V, gL_ge (by omega)]; congr 1; omega
    · rw [gL_lt (by omega), rep_V, gO_lt (by omega), gO_lt (by omega), rep_V, gL_lt (by omega)]
/-- THE ORDER OF TWO MAKES NO DIFFERENCE. -/
theorem open_open (u v t : Tm) : (t.rep (gO u) 0).rep (gO v) 0 = (t.rep (gO v) 1).rep (gO (u.rep (gO v) 0)) 0 := by
  have h1 := rep_comp (gO u) (gO v) 0 t 0
  have h2 := rep_comp (gO v) (gO (u.rep (gO v) 0)) (-1) t 1
  rw [Int.add_zero] at h1
  rw [show (1 : Int) + -1 = 0 by omega] at h2
  rw [h1, h2]
  -- the second one's binders are counted one more
  have sh : ∀ (g g' : Int → Int → Tm), (∀ n x, 0 ≤ x → g n x = g' n (x + 1)) → ∀ (f : Ft) (k0 : Int) (i : Nat) (b : Int), 0 ≤ b → repF g f k0 i b = repF g' f k0 i (b + 1) := by
    intro g g' h f
    induction f with
    | nil => intro _ _ _ _; rfl
    | cons k n ls ks r ihk ihr =>
      intro k0 i b hb
      have hbi := bindK_le k0 i
      rw [repF_cons, repF_cons, ihr k0 (i + 1) b hb]
      congr 1
      unfold rep1
      by_cases hk : k = 1
      · rw [if_pos hk, if_pos hk, h n _ (by omega), show b + 1 + bindK k0 i = b + bindK k0 i + 1 by omega]
      · rw [if_neg hk, if_neg hk, ihk k 0 _ (by omega), show b + 1 + bindK k0 i = b + bindK k0 i + 1 by omega]
  have key : ∀ n x, 0 ≤ x → (gO u n x).rep (gO v) (x + 0) = (gO v n (x + 1)).rep (gO (u.rep (gO v) 0)) (x + 1 + -1) := by
    intro n x hx
    rw [Int.add_zero, show x + 1 + -1 = x by omega]
    by_cases hn : n = x
    · rw [gO_eq hn, open_above hx, gO_lt (by omega), rep_V, gO_eq hn]
    · by_cases hm : x < n
      · rw [gO_gt hm, rep_V]
        by_cases hq : n = x + 1
        · rw [gO_eq (b := x) (by omega), gO_eq (b := x + 1) hq, open_lifted hx]
        · rw [gO_gt (by omega), gO_gt (by omega), rep_V, gO_gt (by omega)]
      · rw [gO_lt (by omega), rep_V, gO_lt (by omega), gO_lt (by omega), rep_V, gO_lt (by omega)]
  obtain ⟨k, n, ls, ks⟩ := t
  have e1 := rep_is (fun n x => (gO u n x).rep (gO v) (x + 0)) k n ls ks 0
  have e2 := rep_is (fun n x => (gO v n x).rep (gO (u.rep (gO v) 0)) (x + -1)) k n ls ks 1
  rw [e1, e2]
  by_cases hk : k = 1
  · rw [if_pos hk, if_pos hk]
    exact key _ 0 (by omega)
  · rw [if_neg hk, if_neg hk, sh (fun n x => (gO u n x).rep (gO v) (x + 0)) (fun n x => (gO v n x).rep (gO (u.rep (gO v) 0)) (x + -1)) key ks k 0 0 (by omega)]
    rfl

/-! ### Which terms stay well-formed -/
def okT (v d : Int) (T : Tm) : Prop := tOne 5 10 v d T.k T.n T.ls T.ks = true
theorem tlim_mono {v v' k : Int} (h : v ≤ v') : tlim v k ≤ tlim v' k := by unfold tlim; split <;> (try split) <;> omega
theorem tfits_mono {p m v v' k n : Int} {ls : Fo} {len : Nat} (h : tfitsB p m v k n ls len = true) (hv : v ≤ v') : tfitsB p m v' k n ls len = true := by
  unfold tfitsB at h ⊢
  simp only [Bool.and_eq_true, decide_eq_true_eq] at h ⊢
  have := tlim_mono (k := k) hv
  exact ⟨h.1, h.2.1, by omega, h.2.2.2.1, h.2.2.2.2.1, h.2.2.2.2.2⟩
theorem tAll_mono {p m : Int} : ∀ {f : Ft} {k0 : Int} {i : Nat} {v v' d d' : Int}, tAll p m f k0 i v d = true → v ≤ v' → d ≤ d' → tAll p m f k0 i v' d' = true
  | .nil, _, _, _, _, _, _, _, _, _ => rfl
  | .cons k n ls ks r, k0, i, v, v', d, d', h, hv, hd => by
    unfold tAll at h ⊢
    simp only [Bool.and_eq_true, decide_eq_true_eq] at h ⊢
    exact ⟨⟨by omega, tfits_mono h.1.2.1 (by omega), tAll_mono h.1.2.2 (by omega) (by omega)⟩, tAll_mono h.2 hv hd⟩
theorem okT.mono {v v' d d' : Int} {T : Tm} (h : okT v d T) (hv : v ≤ v') (hd : d ≤ d') : okT v' d' T := by
  unfold okT tOne at h ⊢
  simp only [Bool.and_eq_true, decide_eq_true_eq] at h ⊢
  exact ⟨by omega, tfits_mono h.2.1 hv, tAll_mono h.2.2 hv (by omega)⟩
theorem okT_V {v d n : Int} (h0 : 0 ≤ n) (h1 : n < v) (hd : 1 ≤ d) : okT v d (tV n) := by
  unfold okT tOne tV tfitsB
  simp [tkids, tlim, tlo, thi, lvB, Ft.len, Fo.len, tAll, h0, h1, hd]
/-- How many terms there may be, at most so deep. -/
def T3 : Nat → Nat
  | 0 => 0
  | d + 1 => 3 * T3 d + 1
theorem tAll_size {p m : Int} : ∀ {f : Ft} {k0 : Int} {i : Nat} {v : Int} {d : Nat}, tAll p m f k0 i v d = true → f.size ≤ f.len * T3 d
  | .nil, _, _, _, _, _ => Nat.zero_le _
  | .cons k n ls ks r, k0, i, v, d, h => by
    unfold tAll at h
    simp only [Bool.and_eq_true, decide_eq_true_eq] at h
    obtain ⟨⟨h1, h2, h3⟩, h4⟩ := h
    match d, h1, h3, h4 with
    | d + 1, _, h3, h4 =>
      rw [show ((d + 1 : Nat) : Int) - 1 = (d : Int) by omega] at h3
      have a := tAll_size h3
      have b := tAll_size h4
      have c := tfits_len h2
      have e := tkids_cases k
      have hl : ks.len ≤ 3 := by omega
      have hm : ks.len * T3 d ≤ 3 * T3 d := Nat.mul_le_mul_right _ hl
      have hT : T3 (d + 1) = 3 * T3 d + 1 := rfl
      simp only [Ft.size, Ft.len, Nat.add_mul]
      omega
theorem okT.size {v : Int} {d : Nat} {T : Tm} (h : okT v ((d + 1 : Nat) : Int) T) : T.ks.size ≤ 3 * T3 d := by
  unfold okT tOne at h
  simp only [Bool.and_eq_true, decide_eq_true_eq] at h
  have h3 := h.2.2
  rw [show ((d + 1 : Nat) : Int) - 1 = (d : Int) by omega] at h3
  have a := tAll_size h3
  have c := tfits_len h.2.1
  have e := tkids_cases T.k
  have hl : T.ks.len ≤ 3 := by omega
  have hm : T.ks.len * T3 d ≤ 3 * T3 d := Nat.mul_le_mul_right _ hl
  omega
theorem okT.sh {v d : Int} {T : Tm} (h : okT v d T) (hv : v ≤ 1000) (hd : d ≤ 6) : T.sh = true := by
  have h6 : okT v ((5 + 1 : Nat) : Int) T := h.mono (Int.le_refl _) (by omega)
  have hs := h6.size
  rw [show T3 5 = 121 by decide] at hs
  have h30 := h.mono (v' := 1000) (d' := 30) hv (by omega)
  unfold Tm.sh shB tRightB
  unfold okT at h30
  rw [h30, decide_eq_true (by omega), decide_eq_true (by omega)]
  rfl
theorem okT.wf {v d : Int} {T : Tm} (h : okT v d T) (hv : v ≤ 1000) (hd : d ≤ 6) : wf1 1030 T.k T.n T.ls T.ks := wf_of_sh (h.sh hv hd)
theorem tAll_rep {g : Int → Int → Tm} {b0 V W D : Int} (hD : 1 ≤ D) (hg : ∀ n x, b0 ≤ x → 0 ≤ n → n < V + x → okT (W + x) D (g n x)) : ∀ (f : Ft) (k0 : Int) (i : Nat) (b d : Int), b0 ≤ b → tAll 5 10 f k0 i (V + b) d = true → tAll 5 10 (repF g f k0 i b) k0 i (W + b) (d + D - 1) = true
  | .nil, _, _, _, _, _, _ => rfl
  | .cons k n ls ks r, k0, i, b, d, hb, h => by
    have hbi := bindK_le k0 i
    unfold tAll at h
    simp only [Bool.and_eq_true, decide_eq_true_eq] at h
    obtain ⟨⟨h1, h2, h3⟩, h4⟩ := h
    rw [repF_cons]
    show tAll 5 10 (.cons _ _ _ _ _) k0 i (W + b) (d + D - 1) = true
    rw [tAll_cons, Bool.and_eq_true]
    refine ⟨?_, tAll_rep hD hg r k0 (i + 1) b d hb h4⟩
    have h2' : tfitsB 5 10 (V + (b + bindK k0 i)) k n ls ks.len = true := by rw [← Int.add_assoc]; exact h2
    have h3' : tAll 5 10 ks k 0 (V + (b + bindK k0 i)) (d - 1) = true := by rw [← Int.add_assoc]; exact h3
    rw [Int.add_assoc]
    unfold rep1
    by_cases hk : k = 1
    · subst hk
      rw [if_pos rfl]
      obtain ⟨_, _, n0, n1⟩ := tfits_var h2'
      exact (hg n _ (by omega) n0 n1).mono (Int.le_refl _) (by omega)
    · rw [if_neg hk]
      have ih := tAll_rep hD hg ks k 0 (b + bindK k0 i) (d - 1) (by omega) h3'
      unfold tOne
      simp only [Bool.and_eq_true, decide_eq_true_eq]
      refine ⟨by omega, ?_, by rw [show d + D - 1 - 1 = d - 1 + D - 1 by omega]; exact ih⟩
      rw [repF_len]
      unfold tfitsB at h2' ⊢
      have e : ∀ z z' : Int, tlim z k = tlim z' k := fun z z' => by unfold tlim; rw [if_neg hk, if_neg hk]
      rw [e (W + (b + bindK k0 i)) (V + (b + bindK k0 i))]
      exact h2'
theorem okT.rep {g : Int → Int → Tm} {b V W D d : Int} (hD : 1 ≤ D) (hg : ∀ n x, b ≤ x → 0 ≤ n → n < V + x → okT (W + x) D (g n x)) {T : Tm} (h : okT (V + b) d T) : okT (W + b) (d + D - 1) (T.rep g b) := by
  have h1 : tAll 5 10 (.cons T.k T.n T.ls T.ks .nil) 0 0 (V + b) d = true := by
    rw [tAll_cons, show bindK 0 0 = 0 by simp [bindK], Int.add_zero]
    unfold okT at h
    rw [h]; rfl
  have h2 := tAll_rep hD hg (.cons T.k T.n T.ls T.ks .nil) 0 0 b d (Int.le_refl _) h1
  rw [repF_cons, show bindK 0 0 = 0 by simp [bindK], Int.add_zero] at h2
  unfold Tm.to at h2
  rw [tAll_cons, show bindK 0 0 = 0 by simp [bindK], Int.add_zero, Bool.and_eq_true] at h2
  exact h2.1
theorem okT.lift {fr by' v d : Int} {T : Tm} (h : okT v d T) (hb : 0 ≤ by') : okT (v + by') d (T.rep (gL fr by') 0) := by
  have h1 := okT.rep (g := gL fr by') (b := 0) (V := v) (W := v + by') (D := 1) (d := d) (by omega) (fun n x hx h0 h1 => by
    unfold gL
    exact okT_V (by split <;> omega) (by split <;> omega) (by omega)) (T := T) (by rwa [Int.add_zero])
  rwa [Int.add_zero, show d + 1 - 1 = d by omega] at h1
theorem okT.pos {v d : Int} {T : Tm} (h : okT v d T) : 1 ≤ d := by
  unfold okT tOne at h
  simp only [Bool.and_eq_true, decide_eq_true_eq] at h
  exact h.1
theorem okT.openAt {v d dU b : Int} {T U : Tm} (hv : 0 ≤ v) (hb : 0 ≤ b) (h : okT (v + 1 + b) d T) (hU : okT v dU U) : okT (v + b) (d + dU - 1) (T.rep (gO U) b) :=
  okT.rep (g := gO U) (b := b) (V := v + 1) (W := v) (D := dU) (d := d) hU.pos (fun n x hx h0 h1 => by
    have hp := hU.pos
    unfold gO
    by_cases hn : n = x
    · rw [if_pos hn]
      exact hU.lift (by omega)
    · rw [if_neg hn]
      split
      · exact okT_V (by omega) (by omega) hp
      · exact okT_V (by omega) (by omega) hp) h
theorem okT.open0 {v d dU : Int} {T U : Tm} (hv : 0 ≤ v) (h : okT (v + 1) d T) (hU : okT v dU U) : okT v (d + dU - 1) (T.rep (gO U) 0) := by
  have h1 := okT.openAt (b := 0) hv (by omega) (by rwa [Int.add_zero]) hU
  rwa [Int.add_zero] at h1
theorem liftA_ok {v d fr by' : Int} {T : Tm} (h : okT v d T) (hv : v + by' ≤ 1000) (hd : d ≤ 6) (h1 : 0 ≤ fr) (h2 : fr ≤ 1000) (h3 : 0 ≤ by') (h4 : by' ≤ 1000) : liftA T fr by' = (T.rep (gL fr by') 0, 0) := by
  have a : T.sh = true := h.sh (by omega) hd
  have b : (T.rep (gL fr by') 0).sh = true := (h.lift h3).sh hv hd
  unfold liftA fin1
  rw [if_pos ⟨a, h1, h2, h3, h4⟩]
  show (if (T.rep (gL fr by') 0).sh = true then (T.rep (gL fr by') 0, (0 : Int)) else (tZ, 2)) = _
  rw [if_pos b]
theorem openA_ok {v d dU : Int} {T U : Tm} (hv : 0 ≤ v) (h : okT (v + 1) d T) (hU : okT v dU U) (hv1 : v + 1 ≤ 1000) (hd : d ≤ 6) (hdU : dU ≤ 6) (hr : (T.rep (gO U) 0).sh = true) : openA T U = (T.rep (gO U) 0, 0) := by
  have a : T.sh = true := h.sh hv1 hd
  have b : U.sh = true := hU.sh (by omega) hdU
  unfold openA fin1
  rw [if_pos ⟨a, b⟩]
  show (if (T.rep (gO U) 0).sh = true then (T.rep (gO U) 0, (0 : Int)) else (tZ, 2)) = _
  rw [if_pos hr]
end Go.Proofs.Ythnkoamabfaioaa
