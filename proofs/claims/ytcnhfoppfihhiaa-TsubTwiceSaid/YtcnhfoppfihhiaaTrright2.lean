/- The contracts of the document's own right, Right and Shape. No condition but that the term lies in memory. -/
import Derived.Test.YtcnhfoppfihhiaaTrright
import Derived.IntWalk
namespace Go.Proofs.Ytcnhfoppfihhiaa
open Go.RowKit

theorem rrHeld {B : Nat} {W w' : World} {N : Nat} {x0 x1 x2 x3 : Value} (h : Below B W w') (hN : N < B) (q0 : W.cell? ⟨N, 0, none⟩ = some x0) (q1 : W.cell? ⟨N, 1, none⟩ = some x1) (q2 : W.cell? ⟨N, 2, none⟩ = some x2) (q3 : W.cell? ⟨N, 3, none⟩ = some x3) :
    Hid (Below B W w') ∧ w'.cell? ⟨N, 0, none⟩ = some x0 ∧ w'.cell? ⟨N, 1, none⟩ = some x1 ∧ w'.cell? ⟨N, 2, none⟩ = some x2 ∧ w'.cell? ⟨N, 3, none⟩ = some x3 :=
  ⟨Lib.hid h, (bcell h _ _ hN).trans q0, (bcell h _ _ hN).trans q1, (bcell h _ _ hN).trans q2, (bcell h _ _ hN).trans q3⟩
theorem rrHeld2 {B : Nat} {W w' : World} {N b i : Nat} {x0 x3 y0 y1 y2 y3 : Value} (h : Below B W w') (hN : N < B) (hb : b < B) (q0 : W.cell? ⟨N, 0, none⟩ = some x0) (q3 : W.cell? ⟨N, 3, none⟩ = some x3) (e0 : W.cell? ⟨b, i, none⟩ = some y0) (e1 : W.cell? ⟨b, i + 1, none⟩ = some y1) (e2 : W.cell? ⟨b, i + 2, none⟩ = some y2) (e3 : W.cell? ⟨b, i + 3, none⟩ = some y3) :
    Hid (Below B W w') ∧ w'.cell? ⟨N, 0, none⟩ = some x0 ∧ w'.cell? ⟨N, 3, none⟩ = some x3 ∧ w'.cell? ⟨b, i, none⟩ = some y0 ∧ w'.cell? ⟨b, i + 1, none⟩ = some y1 ∧ w'.cell? ⟨b, i + 2, none⟩ = some y2 ∧ w'.cell? ⟨b, i + 3, none⟩ = some y3 :=
  ⟨Lib.hid h, (bcell h _ _ hN).trans q0, (bcell h _ _ hN).trans q3, (bcell h _ _ hb).trans e0, (bcell h _ _ hb).trans e1, (bcell h _ _ hb).trans e2, (bcell h _ _ hb).trans e3⟩
theorem tOne_low (p m v : Int) {d : Int} (k n : Int) (ls : Fo) (ks : Ft) (h : d < 1) : tOne p m v d k n ls ks = false := by unfold tOne; rw [decide_eq_false (by omega)]; rfl
theorem tOne_len (p m v d : Int) {k : Int} (n : Int) (ls : Fo) {ks : Ft} (h : (ks.len : Int) ≠ tkids k) : tOne p m v d k n ls ks = false := by unfold tOne; rw [← named_fits, decide_eq_false h]; simp
theorem tOne_named {p m v d k : Int} {n : Int} {ls : Fo} {ks : Ft} (h0 : ¬ d < 1) (h : (ks.len : Int) = tkids k) {x : Bool} (hx : namedB p m v k n ls = x) : tOne p m v d k n ls ks = (x && tAll p m ks k 0 v (d - 1)) := by
  unfold tOne; rw [← named_fits, decide_eq_true h, hx, decide_eq_true (by omega)]; rfl

set_option maxRecDepth 100000 in
set_option maxHeartbeats 4000000 in
theorem r13right_any (p m : Int) (s : Nat) : ∀ (f : Ft), f.size < s → ∀ (k n v d : Int) (ls : Fo) (la ka : Option Addr) (lc kc B : Nat) (w : World), SlIn w (· < B) ls la lc → TlIn w (· < B) f ka kc → B ≤ w.heap.size → 0 ≤ d → d ≤ 30 → 0 ≤ v → v + d ≤ 2000 →
    Calls Try.prog 65 #[.agg #[.int .i64 k, .int .i64 n, .slice la ls.len lc, .slice ka f.len kc], .int .i64 v, .int .i64 p, .int .i64 m, .int .i64 d] w fun e w' => e = .returned (.bool (tOne p m v d k n ls f)) ∧ Below w.heap.size w w' := by
  induction s with
  | zero => intro f hs; omega
  | succ s ih =>
    intro f hs k n v d ls la ka lc kc B w hls hsl hB hd0 hd hv0 hvd
    have IH := Lib.hid ih
    clear ih
    have hlen := hsl.len
    by_cases h1 : d < 1
    · rw [tOne_low p m v k n ls f h1]
      have d1 : decide (d < 1) = true := decide_eq_true h1
      go_enter Try.func65, Try.ntmps65
      go_wp2_with fail
      go_quiet (fail)
      go_wp2_with fail
      go_ret
      exact ⟨rfl, Below.draws ((Below.refl _ _).alloc (Nat.le_refl _) _) _⟩
    · have d1 : decide (d < 1) = false := decide_eq_false h1
      by_cases h2 : (f.len : Int) = tkids k
      · have HOK := Lib.hid (fun x hx => tOne_named (p := p) (m := m) (v := v) (d := d) (n := n) (ls := ls) h1 h2 (x := x) hx)
        have hb0 : Below w.heap.size w (w.alloc (.cells #[.int .i64 k, .int .i64 n, .slice la ls.len lc, .slice ka f.len kc] 29)).drew := ((Below.refl _ _).alloc (Nat.le_refl _) _).drew
        have HN : Hid (∀ W : World, Below w.heap.size w W → Calls Try.prog 77 #[.agg #[.int .i64 k, .int .i64 n, .slice la ls.len lc, .slice ka f.len kc], .int .i64 v, .int .i64 p, .int .i64 m] W fun e w' => e = .returned (.bool (namedB p m v k n ls)) ∧ Below W.heap.size W w') := Lib.hid (by
          intro W h
          exact r13named_any p m v k n ls la ka f.len lc kc B W (hls.below (h.mono hB)) (Nat.le_trans hB h.size))
        generalize namedB p m v k n ls = x at HN HOK
        have HX := Lib.hid (HOK.out x rfl)
        generalize tOne p m v d k n ls f = res at HX
        have dl : ((f.len : Int) != tkids k) = false := by rw [h2]; simp
        have H2 := Lib.hid h2
        have HKI : Hid (∀ W, Calls Try.prog 76 #[.int .i64 k] W fun e w' => e = .returned (.int .i64 (tkids k)) ∧ w' = W) := Lib.hid (r13kids_any k)
        obtain ⟨q0, q1, q2, q3⟩ := cells4 (heap_new w (.cells #[.int .i64 k, .int .i64 n, .slice la ls.len lc, .slice ka f.len kc] 29))
        have HB := Lib.hid hb0
        have HLS := Lib.hid hls
        have HSL := Lib.hid hsl
        clear HOK h2 hb0 hls hsl
        go_enter Try.func65, Try.ntmps65
        go_wp2_with fail
        go_region_held3 (fun w' => Hid (Below (w.heap.size + 1) (w.alloc (.cells #[.int .i64 k, .int .i64 n, .slice la ls.len lc, .slice ka f.len kc] 29)).drew w') ∧ w'.cell? ⟨w.heap.size, 0, none⟩ = some (.int .i64 k) ∧ w'.cell? ⟨w.heap.size, 1, none⟩ = some (.int .i64 n) ∧ w'.cell? ⟨w.heap.size, 2, none⟩ = some (.slice la ls.len lc) ∧ w'.cell? ⟨w.heap.size, 3, none⟩ = some (.slice ka f.len kc))
          (first | exact ⟨Lib.hid (Below.refl _ _), q0, q1, q2, q3⟩ | (go_split_ands; exact rrHeld (Below.step (Hid.out (by assumption)) hbN (by simp)) (Nat.lt_succ_self _) q0 q1 q2 q3) | (go_split_ands; exact rrHeld (Hid.out (by assumption)) (Nat.lt_succ_self _) q0 q1 q2 q3))
          (first | (go_at_call 76; refine (HKI.out _).mono ?_; rintro e wN ⟨rfl, rfl⟩) | (go_at_call 77; go_split_ands; refine (HN.out _ (HB.out.trans (Below.mono (Hid.out (by assumption)) (Nat.le_succ _)))).mono ?_; rintro e wN ⟨rfl, hbN⟩))
        go_split_ands
        have HBN : Hid (Below (w.heap.size + 1) (w.alloc (.cells #[.int .i64 k, .int .i64 n, .slice la ls.len lc, .slice ka f.len kc] 29)).drew wN) := by assumption
        have hEE := Lib.hid (HB.out.trans (Below.mono HBN.out (Nat.le_succ _)))
        clear q0 q1 q2 q3 hbN HN HKI HLS
        cases x with
        | false =>
          go_wp2_with fail
          go_ret
          exact ⟨by rw [HX.out]; rfl, hEE.out⟩
        | true =>
          simp only [Bool.not_true]
          go_wp2_with fail
          go_loopw [11] (fun i wr => ∃ (j : Nat) (r : Ft), i = .int .i64 j ∧ Hid (j + r.len = f.len) ∧ Hid (r.size ≤ f.size) ∧
              Hid (∀ b o, ka = some ⟨b, o, none⟩ → FtIn w (· < B) r b (o + j * 4)) ∧ Hid (tAll p m r k j v (d - 1) = tAll p m f k 0 v (d - 1)) ∧ Hid (Below (w.heap.size + 1) (w.alloc (.cells #[.int .i64 k, .int .i64 n, .slice la ls.len lc, .slice ka f.len kc] 29)) wr))
            (fun i _ => f.len - (intOf i).toNat)
          case atStart => exact ⟨0, f, rfl, Lib.hid (by omega), Lib.hid (Nat.le_refl _), Lib.hid (by rintro b o rfl; simpa using HSL.out.ftIn), Lib.hid rfl, Lib.hid (Below.trans (Below.refl _ _).drew HBN.out)⟩
          case round =>
            obtain ⟨j, r, rfl, hj, hrs, hin, hall, hb⟩ := hrel
            have c0 := bcell hb.out w.heap.size 0 (by omega)
            have c3 := bcell hb.out w.heap.size 3 (by omega)
            simp at c0 c3
            have hwW : Hid (Below w.heap.size w wr) := Lib.hid (Below.trans ((Below.refl _ _).alloc (Nat.le_refl _) _) (hb.out.mono (by omega)))
            cases r with
            | nil =>
              have hlt : ¬ (j : Int) < (f.len : Int) := by have := hj.out; simp [Ft.len] at this; omega
              have d' : decide ((j : Int) < (f.len : Int)) = false := by simpa using hlt
              go_wp2_with fail
              go_ret
              exact ⟨by rw [HX.out, ← hall.out]; rfl, hwW.out⟩
            | cons k' n' ls' ks r' =>
              have hlt : j < f.len := by have := hj.out; simp [Ft.len] at this; omega
              have hlt' : (j : Int) < (f.len : Int) := by omega
              have hwB : Below B w wr := hwW.out.mono hB
              obtain ⟨b, o, rfl, hbB, hf0⟩ := HSL.out.some (by omega)
              obtain ⟨e0, e1, ⟨la', lc', e2, hls'⟩, ⟨ka', kc', e3, hsl'⟩, hrest⟩ := (hin.out b o rfl).below hwB _ _ _ hbB |>.first
              have hks : ks.size < s := by have := hrs.out; simp [Ft.size] at this; omega
              have HC := Lib.hid (tAll_cons p m k' n' ls' ks r' k j v (d - 1))
              have hbind : 0 ≤ bindK k j ∧ bindK k j ≤ 1 := by unfold bindK; split <;> omega
              have HCL : Hid (∀ W : World, Below wr.heap.size wr W → Calls Try.prog 65 #[.agg #[.int .i64 k', .int .i64 n', .slice la' ls'.len lc', .slice ka' ks.len kc'], .int .i64 (v + bindK k j), .int .i64 p, .int .i64 m, .int .i64 (d - 1)] W fun e w' => e = .returned (.bool (tOne p m (v + bindK k j) (d - 1) k' n' ls' ks)) ∧ Below W.heap.size W w') := Lib.hid (by
                intro W h
                have h' : Below B wr W := h.mono (Nat.le_trans hB hwW.out.size)
                exact IH.out ks hks k' n' (v + bindK k j) (d - 1) ls' la' ka' lc' kc' B W (hls'.below h') (hsl'.below h') (Nat.le_trans (Nat.le_trans hB hwW.out.size) h.size) (by omega) (by omega) (by omega) (by omega))
              have HBI : Hid (∀ W, Calls Try.prog 46 #[.int .i64 k, .int .i64 j] W fun e w' => e = .returned (.int .i64 (bindK k j)) ∧ w' = W) := Lib.hid (r13binds_any k j)
              have HW1 : Hid (IntKind.i64.wrap (v + bindK k j) = v + bindK k j) := Lib.hid (IntWalk.i64_in _ (by omega))
              have HW2 : Hid (IntKind.i64.wrap (d - 1) = d - 1) := Lib.hid (IntWalk.i64_in _ (by omega))
              have hbr : b < wr.heap.size := by have := hwW.out.size; omega
              have hwr1 : w.heap.size < wr.heap.size := by have := hb.out.size; simp at this; omega
              generalize tOne p m (v + bindK k j) (d - 1) k' n' ls' ks = vv at HC HCL
              clear hls' hsl' hf0 hrest hbind
              go_wp2_with fail
              go_region_held3 (fun w' => Hid (Below wr.heap.size wr w') ∧ w'.cell? ⟨w.heap.size, 0, none⟩ = some (.int .i64 k) ∧ w'.cell? ⟨w.heap.size, 3, none⟩ = some (.slice (some ⟨b, o, none⟩) f.len kc) ∧ w'.cell? ⟨b, o + j * 4, none⟩ = some (.int .i64 k') ∧ w'.cell? ⟨b, o + j * 4 + 1, none⟩ = some (.int .i64 n') ∧ w'.cell? ⟨b, o + j * 4 + 2, none⟩ = some (.slice la' ls'.len lc') ∧ w'.cell? ⟨b, o + j * 4 + 3, none⟩ = some (.slice ka' ks.len kc'))
                (first | exact ⟨Lib.hid (Below.refl _ _).drew, c0, c3, e0, e1, e2, e3⟩ | (go_split_ands; exact rrHeld2 (Below.step (Hid.out (by assumption)) hbN (Nat.le_refl _)) hwr1 hbr c0 c3 e0 e1 e2 e3) | (go_split_ands; exact rrHeld2 (Hid.out (by assumption)) hwr1 hbr c0 c3 e0 e1 e2 e3))
                (first | (go_at_call 46; refine (HBI.out _).mono ?_; rintro e wN ⟨rfl, rfl⟩) | (go_at_call 65; go_split_ands; rw [HW1.out, HW2.out]; refine (HCL.out _ (Hid.out (by assumption))).mono ?_; rintro e wN ⟨rfl, hbN⟩))
              go_split_ands
              have hbE := Lib.hid (Below.step hb.out (Hid.out (by assumption : Hid (Below wr.heap.size wr wN))) (by simp))
              have hwE := Lib.hid (hwW.out.trans (Below.mono (Hid.out (by assumption : Hid (Below wr.heap.size wr wN))) hwW.out.size))
              clear c0 c3 e0 e1 e2 e3 HCL HBI HW1 HW2 hbN
              cases vv with
              | true =>
                go_wp2_with fail
                go_roundw
                case rel => exact ⟨j + 1, r', by go_num, Lib.hid (by have := hj.out; simp [Ft.len] at this; omega), Lib.hid (by have := hrs.out; simp [Ft.size] at this; omega), Lib.hid (by rintro b' o' h; cases h; have := (hin.out b o rfl).2.2.2.2; rwa [show o + (j + 1) * 4 = o + j * 4 + 4 by omega]), Lib.hid (by rw [← hall.out, HC.out]; rfl), hbE⟩
                case measure => simp [intOf]; omega
              | false =>
                go_wp2_with fail
                go_ret
                exact ⟨by rw [HX.out, ← hall.out, HC.out]; rfl, hwE.out⟩
      · rw [tOne_len p m v d n ls h2]
        have dl : ((f.len : Int) != tkids k) = true := by rw [bne_iff_ne]; exact h2
        clear h2
        go_enter Try.func65, Try.ntmps65
        go_wp2_with fail
        go_quiet ((go_at_call 76; exact Calls.quiet_of_same (r13kids_any _ _)))
        go_wp2_with fail
        go_ret
        exact ⟨rfl, Below.draws ((Below.refl _ _).alloc (Nat.le_refl _) _) _⟩

set_option maxRecDepth 100000 in
set_option maxHeartbeats 2000000 in
theorem r13Right_any (p m v k n : Int) (ls : Fo) (f : Ft) (la ka : Option Addr) (lc kc B : Nat) (w : World) (hls : SlIn w (· < B) ls la lc) (hsl : TlIn w (· < B) f ka kc) (hB : B ≤ w.heap.size) :
    Calls Try.prog 44 #[.agg #[.int .i64 k, .int .i64 n, .slice la ls.len lc, .slice ka f.len kc], .int .i64 v, .int .i64 p, .int .i64 m] w fun e w' => e = .returned (.bool (tRightB p m v k n ls f)) ∧ Below w.heap.size w w' := by
  have hb : Below w.heap.size w (w.alloc (.cells #[.int .i64 k, .int .i64 n, .slice la ls.len lc, .slice ka f.len kc] 29)) := (Below.refl _ _).alloc (Nat.le_refl _) _
  have HB := Lib.hid hb
  by_cases h1 : 0 ≤ v
  · have d1 : decide (0 ≤ v) = true := decide_eq_true h1
    by_cases h2 : v ≤ 1000
    · have d2 : decide (v ≤ 1000) = true := decide_eq_true h2
      by_cases h3 : 0 ≤ p
      · have d3 : decide (0 ≤ p) = true := decide_eq_true h3
        by_cases h4 : p ≤ 5
        · have d4 : decide (p ≤ 5) = true := decide_eq_true h4
          by_cases h5 : 0 ≤ m
          · have d5 : decide (0 ≤ m) = true := decide_eq_true h5
            by_cases h6 : m ≤ 10
            · have d6 : decide (m ≤ 10) = true := decide_eq_true h6
              have HP := Lib.hid (r13parts_any (f.size + 1) f (Nat.lt_succ_self _) k n 601 ls la ka lc kc B (w.alloc (.cells #[.int .i64 k, .int .i64 n, .slice la ls.len lc, .slice ka f.len kc] 29)) (hsl.below (hb.mono hB)) (by simp; omega) (by omega) (by omega))
              have HR : Hid (∀ W : World, Below w.heap.size w W → Calls Try.prog 65 #[.agg #[.int .i64 k, .int .i64 n, .slice la ls.len lc, .slice ka f.len kc], .int .i64 v, .int .i64 p, .int .i64 m, .int .i64 30] W fun e w' => e = .returned (.bool (tOne p m v 30 k n ls f)) ∧ Below W.heap.size W w') := Lib.hid (by
                intro W h
                exact r13right_any p m (f.size + 1) f (Nat.lt_succ_self _) k n v 30 ls la ka lc kc B W (hls.below (h.mono hB)) (hsl.below (h.mono hB)) (Nat.le_trans hB h.size) (by omega) (by omega) (by omega) (by omega))
              have hpp := partsF_eq f 601 1 (by omega) (by omega)
              have hp0 : 1 ≤ partsF f 601 1 := by omega
              have hp1 : partsF f 601 1 ≤ 601 := by omega
              clear hpp hls hsl hb
              by_cases h7 : partsF f 601 1 ≤ 600
              · have HV := Lib.hid (tRightB_yes (p := p) (m := m) (v := v) k n ls (ks := f) ⟨h1, h2, h3, h4, h5, h6⟩ h7)
                generalize tOne p m v 30 k n ls f = y at HR HV
                generalize tRightB p m v k n ls f = res at HV
                generalize partsF f 601 1 = x at HP h7 hp0 hp1
                go_enter Try.func44, Try.ntmps44
                go_wp2_with fail
                refine HP.out.mono ?_
                rintro e w1 ⟨rfl, hb1⟩
                have hb2 := Lib.hid (Below.step HB.out hb1 (Nat.le_refl _))
                have hb1' : Below (w.heap.size + 1) (w.alloc (.cells #[.int .i64 k, .int .i64 n, .slice la ls.len lc, .slice ka f.len kc] 29)) w1 := by simpa using hb1
                have c0 := bcell hb1' w.heap.size 0 (by omega)
                have c1 := bcell hb1' w.heap.size 1 (by omega)
                have c2 := bcell hb1' w.heap.size 2 (by omega)
                have c3 := bcell hb1' w.heap.size 3 (by omega)
                simp at c0 c1 c2 c3
                clear hb1 hb1'
                go_wp2_with fail
                refine (HR.out _ hb2.out).mono ?_
                rintro e w3 ⟨rfl, hb3⟩
                have HE := Lib.hid (Below.step hb2.out hb3 (Nat.le_refl _))
                clear hb3
                go_wp2_with fail
                go_ret
                exact ⟨by rw [HV.out]; rfl, HE.out⟩
              · have HV := Lib.hid (tRightB_big p m v k n ls h7)
                generalize tRightB p m v k n ls f = res at HV
                generalize partsF f 601 1 = x at HP h7 hp0 hp1
                have d7 : decide (x ≤ 600) = false := decide_eq_false h7
                go_enter Try.func44, Try.ntmps44
                go_wp2_with fail
                refine HP.out.mono ?_
                rintro e w1 ⟨rfl, hb1⟩
                have hb2 := Lib.hid (Below.step HB.out hb1 (Nat.le_refl _))
                clear hb1
                go_wp2_with fail
                go_ret
                exact ⟨by rw [HV.out]; rfl, hb2.out⟩
            · rw [tRightB_out k n ls f (by omega)]
              have d6 : decide (m ≤ 10) = false := decide_eq_false h6
              go_enter Try.func44, Try.ntmps44
              go_wp2_with fail
              go_ret
              exact ⟨rfl, HB.out⟩
          · rw [tRightB_out k n ls f (by omega)]
            have d5 : decide (0 ≤ m) = false := decide_eq_false h5
            go_enter Try.func44, Try.ntmps44
            go_wp2_with fail
            go_ret
            exact ⟨rfl, HB.out⟩
        · rw [tRightB_out k n ls f (by omega)]
          have d4 : decide (p ≤ 5) = false := decide_eq_false h4
          go_enter Try.func44, Try.ntmps44
          go_wp2_with fail
          go_ret
          exact ⟨rfl, HB.out⟩
      · rw [tRightB_out k n ls f (by omega)]
        have d3 : decide (0 ≤ p) = false := decide_eq_false h3
        go_enter Try.func44, Try.ntmps44
        go_wp2_with fail
        go_ret
        exact ⟨rfl, HB.out⟩
    · rw [tRightB_out k n ls f (by omega)]
      have d2 : decide (v ≤ 1000) = false := decide_eq_false h2
      go_enter Try.func44, Try.ntmps44
      go_wp2_with fail
      go_ret
      exact ⟨rfl, HB.out⟩
  · rw [tRightB_out k n ls f (by omega)]
    have d1 : decide (0 ≤ v) = false := decide_eq_false h1
    go_enter Try.func44, Try.ntmps44
    go_wp2_with fail
    go_ret
    exact ⟨rfl, HB.out⟩
set_option maxRecDepth 100000 in
set_option maxHeartbeats 2000000 in
theorem r13Shape_any (k n : Int) (ls : Fo) (f : Ft) (la ka : Option Addr) (lc kc B : Nat) (w : World) (hls : SlIn w (· < B) ls la lc) (hsl : TlIn w (· < B) f ka kc) (hB : B ≤ w.heap.size) :
    Calls Try.prog 28 #[.agg #[.int .i64 k, .int .i64 n, .slice la ls.len lc, .slice ka f.len kc]] w fun e w' => e = .returned (.bool (shB k n ls f)) ∧ Below w.heap.size w w' := by
  have hb : Below w.heap.size w (w.alloc (.cells #[.int .i64 k, .int .i64 n, .slice la ls.len lc, .slice ka f.len kc] 29)) := (Below.refl _ _).alloc (Nat.le_refl _) _
  have HC := Lib.hid (r13Right_any 5 10 1000 k n ls f la ka lc kc B (w.alloc (.cells #[.int .i64 k, .int .i64 n, .slice la ls.len lc, .slice ka f.len kc] 29)) (hls.below (hb.mono hB)) (hsl.below (hb.mono hB)) (by simp; omega))
  have HS : Hid (tRightB 5 10 1000 k n ls f = shB k n ls f) := Lib.hid rfl
  generalize tRightB 5 10 1000 k n ls f = x at HC HS
  clear hls hsl
  go_enter Try.func28, Try.ntmps28
  go_wp2_with fail
  refine HC.out.mono ?_
  rintro e w2 ⟨rfl, hb2⟩
  go_wp2_with fail
  go_ret
  exact ⟨by rw [HS.out]; rfl, Below.step hb hb2 (Nat.le_refl _)⟩
end Go.Proofs.Ytcnhfoppfihhiaa
