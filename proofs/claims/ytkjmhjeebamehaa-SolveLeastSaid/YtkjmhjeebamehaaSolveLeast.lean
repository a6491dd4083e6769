/- For all numbers the law SolveLeast returns true: what Solve tells of clauses by numbers is the least model, or there is none. No condition. -/
import Derived.Test.YtkjmhjeebamehaaJawake
import Derived.Test.YtkjmhjeebamehaaJfacts
import Derived.Test.YtkjmhjeebamehaaHrbroken
import Derived.Test.YtkjmhjeebamehaaHrmost
import Derived.Test.YtkjmhjeebamehaaHmade
import Derived.Test.YtkjmhjeebamehaaHopen
import Derived.Carry
namespace Go.Proofs.Ytkjmhjeebamehaa.solveLeast
open Go.ChangeShapes Go.WideShapes Go.ChangeAt Go.RowKit

set_option maxRecDepth 100000 in
set_option maxHeartbeats 16000000 in
theorem walk (n : Int) (h0 : 0 ≤ n) (h1 : n < 256) (ll cl lv cv B : Nat) (al av : Option Addr) (w : World) (hl : ByIn w (· < B) ll al cl) (hv : ByIn w (· < B) lv av cv) (hB : B ≤ w.heap.size) :
    Calls Try.prog 5 #[.int .u8 n, .slice al ll cl, .slice av lv cv] w fun e w' => e = .returned (.bool true) ∧ Below w.heap.size w w' := by
  have CM := Lib.hid (fun W (h : Below w.heap.size w W) => made8_any n h0 h1 ll cl B al W (hl.below (h.mono hB)) (Nat.le_trans hB h.size))
  have CD := Lib.hid (fun W (h : Below w.heap.size w W) => model8_any n h0 h1 lv cv B av W (hv.below (h.mono hB)) (Nat.le_trans hB h.size))
  have CV := Lib.hid (fun W => vars8_any n h0 h1 W)
  have hV := varsN_bd n
  generalize varsN n = V at CM CD CV hV
  obtain ⟨hV1, hV2⟩ := hV
  clear hl hv
  go_enter Try.func5, Try.ntmps5
  go_wp2_with fail
  refine (awake9_any _).mono ?_
  rintro e w1 ⟨rfl, b1⟩
  have B1 := Lib.hid b1
  clear b1
  go_wp2_with fail
  refine (CV.out _).mono ?_
  rintro e w' ⟨rfl, rfl⟩
  go_wp2_with fail
  refine (CM.out _ B1.out).mono ?_
  rintro e w2 ⟨l, x, c, rfl, hco, hall, h30, b2⟩
  have HC := Lib.hid (hco.cls.weak (Q := (· < w2.heap.size)) (fun b hb => hb.2))
  have B2 := Lib.hid (Below.step B1.out b2 (Nat.le_refl _))
  have HR := Lib.hid (hrB_mk (V := V) (l := l) (by omega) (by omega) (by omega) hall)
  clear hco b2 hall h30
  go_wp2_with fail
  refine (jSolve_any V (by omega) l x c w2.heap.size w2 HC.out (Nat.le_refl _)).mono ?_
  rintro e w3 ⟨a, is, nn, er, xa, ca, rfl, hs, ho, b3⟩
  obtain ⟨hs1, rfl⟩ : ((is = true ∧ LeastJ l (zerosJ V) a ∧ a.length = V ∧ (∀ i, 0 ≤ a.getD i 0 ∧ a.getD i 0 ≤ ((V : Int) - 1) * mostD 0 l) ∧ natsB a = true) ∨ (is = false ∧ a = [] ∧ ∀ b, LeM (zerosJ V) b → ¬ ModJ l b)) ∧ er = 0 := by
    rcases hs with ⟨_, ht, rfl⟩ | ⟨h, _⟩
    · exact ⟨sv_cases HR.out ht, rfl⟩
    · rw [HR.out] at h; cases h
  have HS := Lib.hid hs1
  have RA := Lib.hid (RowL.of ho)
  have L23 := Lib.hid b3
  have B3 := Lib.hid (Below.step B2.out b3 (Nat.le_refl _))
  clear hs hs1 ho b3
  go_wp2_with fail
  refine (CD.out _ B3.out).mono ?_
  rintro e w4 ⟨m, hml, hlow, rfl, hnb, b4⟩
  have HM := Lib.hid (hnb.ints (cap := V) (by omega) (by omega))
  have HML := Lib.hid hml
  have HLO := Lib.hid hlow
  have L34 := Lib.hid b4
  have B4 := Lib.hid (Below.step B3.out b4 (Nat.le_refl _))
  have HKM := bk_ok (brkOk_mk HR.out hml hlow.nats)
  have CB := r8Broken_any m l x (some ⟨w3.heap.size, 0, none⟩) c V w4.heap.size w4 ((HC.out.below (Below.step L23.out b4 (Nat.le_refl _))).mono (Nat.le_trans L23.out.size b4.size)) HM.out (Nat.le_refl _)
  rw [hml, HKM.1, HKM.2] at CB
  clear hnb b4 hlow hml HKM
  go_wp2_with fail
  refine CB.mono ?_
  clear CB
  rintro e w5 ⟨xb, cb, rfl, hob, b5⟩
  have L45 := Lib.hid b5
  have B5 := Lib.hid (Below.step B4.out b5 (Nat.le_refl _))
  have hlb := (hob.ints).len
  clear hob b5
  rcases HS.out with ⟨rfl, hle, hal, habd, hana⟩ | ⟨rfl, rfl, hno⟩
  · have HLE := Lib.hid hle
    have HAB := Lib.hid habd
    have HBK : Hid ((brkL m l).length = 0 → LeM a m) := Lib.hid (fun h => hle.2.2 m (HLO.out.le HML.out) (brk_nil h))
    have HKA := bk_ok (brkOk_mk HR.out hal hana)
    rw [brkL_none.2 hle.2.1] at HKA
    have L25 := Lib.hid (Below.step (Below.step L23.out L34.out (Nat.le_refl _)) L45.out (Nat.le_refl _))
    have L35 := Lib.hid (Below.step L34.out L45.out (Nat.le_refl _))
    have CB := r8Broken_any a l x xa c ca w5.heap.size w5 ((HC.out.below L25.out).mono L25.out.size) (((RA.out _ L35.out).1).mono (RA.out _ L35.out).2) (Nat.le_refl _)
    rw [HKA.1, HKA.2, hal] at CB
    have CMO := Lib.hid (fun (W : World) (hW : Below w5.heap.size w5 W) => r8Most_any V l x c W.heap.size W ((HC.out.below (Below.step L25.out hW (Nat.le_refl _))).mono (Below.step L25.out hW (Nat.le_refl _)).size) (Nat.le_refl _))
    rw [show mostV V l = mostD 0 l by simp [mostV, HR.out], show mostE V l = 0 by simp [mostE, HR.out]] at CMO
    have hlim := lim_bd HR.out
    obtain ⟨D, hD⟩ : ∃ D, D = mostD 0 l := ⟨_, rfl⟩
    rw [← hD] at hlim HAB CMO
    obtain ⟨Q, hQ⟩ : ∃ Q, Q = ((V : Int) - 1) * D := ⟨_, rfl⟩
    rw [← hQ] at hlim HAB
    have hw1 : IntKind.i64.wrap (((V : Int) - 1) * D) = Q := by rw [← hQ]; exact IntWalk.i64_in _ (by omega)
    have HRA : Hid (∀ W, Below w3.heap.size w3 W → ∀ i, i < V → ∃ g o, xa = some ⟨g, o, none⟩ ∧ W.cell? ⟨g, o + i, none⟩ = some (.int .i64 (a.getD i 0))) := Lib.hid (fun W hW i hi => by
      obtain ⟨g, o, e, _, hc⟩ := ((RA.out W hW).1).some (by omega)
      exact ⟨g, o, e, hc i (by omega)⟩)
    have HRM : Hid (∀ W, Below w4.heap.size w4 W → ∀ i, i < V → W.cell? ⟨w3.heap.size, i, none⟩ = some (.int .i64 (m.getD i 0))) := Lib.hid (fun W hW i hi => by
      obtain ⟨g, o, e, _, hc⟩ := (HM.out.below hW).some (by have := HML.out; omega)
      cases e
      have := hc i (by have := HML.out; omega)
      rwa [Nat.zero_add] at this)
    rw [hal]
    clear hle habd hana HKA hD hQ hal RA HM HLE HLO HML HC HR HS CM CD CV
    generalize (brkL m l).length = nb at HBK hlb
    go_wp2_with fail
    refine CB.mono ?_
    clear CB
    rintro e w6 ⟨xx, cx, rfl, _, b6⟩
    have B6 := Lib.hid (Below.step B5.out b6 (Nat.le_refl _))
    have L56 := Lib.hid b6
    clear b6
    go_wp2_with fail
    refine (CMO.out w6 L56.out).mono ?_
    rintro e w7 ⟨rfl, b7⟩
    have B7 := Lib.hid (Below.step B6.out b7 (Nat.le_refl _))
    have L37 := Lib.hid (Below.step (Below.step L35.out L56.out (Nat.le_refl _)) b7 (Nat.le_refl _))
    have L47 := Lib.hid (Below.step (Below.step L45.out L56.out (Nat.le_refl _)) b7 (Nat.le_refl _))
    clear b7 L25 L35 L56 L45 L34 L23
    go_wp2_with fail
    go_loopw [21] (fun iv wr => ∃ i : Nat, iv = .int .i64 i ∧ i ≤ V ∧ Hid (Below w7.heap.size w7 wr)) (fun iv _ => V - (intOf iv).toNat)
    case atStart => exact ⟨0, rfl, by omega, Lib.hid (Below.refl _ _)⟩
    case round =>
      obtain ⟨i, rfl, hi, hb⟩ := hrel
      by_cases hlt : i < V
      · obtain ⟨g, o, rfl, ea⟩ := HRA.out wr (Below.step L37.out hb.out (Nat.le_refl _)) i hlt
        have em := HRM.out wr (Below.step L47.out hb.out (Nat.le_refl _)) i hlt
        have hab := (HAB.out i).2
        have hle := Lib.hid (fun h => (HBK.out h).2 i)
        have hi0 : (0 : Int) ≤ (i : Int) := by omega
        have hlt' : (i : Int) < (V : Int) := by omega
        have HBN : Hid (∀ n, Below w7.heap.size w7 (wr.drewN n)) := Lib.hid (fun n => Below.draws hb.out n)
        generalize a.getD i 0 = y at ea hab hle
        generalize m.getD i 0 = z at em hle
        have d1 : decide (Q < y) = false := decide_eq_false (by omega)
        by_cases hnb : nb = 0
        · have d2 : decide (z < y) = false := decide_eq_false (by have := hle.out hnb; omega)
          subst hnb
          go_wp2_with fail
          go_quiet (fail)
          go_wp2_with fail
          go_roundw
          case rel => exact ⟨i + 1, by go_num, by omega, Lib.hid (HBN.out _)⟩
          case measure => simp [intOf]; omega
        · have d3 : ((nb : Int) == 0) = false := by simpa using hnb
          go_wp2_with fail
          go_quiet (fail)
          go_wp2_with fail
          go_roundw
          case rel => exact ⟨i + 1, by go_num, by omega, Lib.hid (HBN.out _)⟩
          case measure => simp [intOf]; omega
      · have hlt' : ¬ (i : Int) < (V : Int) := by omega
        have HE := Lib.hid (Below.step B7.out hb.out (Nat.le_refl _))
        go_wp2_with fail
        go_ret
        exact ⟨rfl, HE.out⟩
  · have hpos := brk_some (hno m (HLO.out.le HML.out))
    have hp2 : (0 : Int) < ((brkL m l).length : Int) := by omega
    generalize (brkL m l).length = nb at hp2 hlb hpos
    clear hno RA HM HLO HML HC HR HS CM CD CV L45 L34 L23
    go_wp2_with fail
    go_ret
    exact ⟨rfl, B5.out⟩

theorem own : ownKnob Try.prog.godebug = none := by kernel_rfl

set_option maxRecDepth 100000 in
theorem lifted (os : Os) (started : os.Started) (H : Type) (enc : TypeId × Value → H) :
    ReturnsInHanded {} Try.checked os 5 .any (Rows.solveLeastSpec.pre6 enc Try.prog Try.f5 Rows.solveLeastRow.domain false) (Rows.solveLeastSpec.post enc Try.prog Try.f5 false true false false) := by
  refine returnsInHanded_of_change (C := Try.checked) own started (by kernel_rfl) Try.func5
    (ChangeSpec.witness6 (enc := enc) (C := Try.checked) false ⟨#[], #[.int .u8 0, .slice none 0 0, .slice none 0 0], []⟩ 8 (by kernel_rfl) (by kernel_rfl) (by kernel_rfl) (by kernel_rfl)) ?_
  intro W base args ds gs before hval0 hW hcnd _
  have hval : ∀ (j : Nat) t v, Try.f5.params[j]? = some t → args[j]? = some v → Value.okWide Try.prog W .any base t v := hval0
  have hW' := hW
  obtain ⟨p, q, hA0, hV, rfl, hfz, hnd⟩ := hW
  have hA : DataW.TrodAll enc Try.prog W 0 (fun _ => true) true Try.f5.params.toList args.toList ds p := hA0
  rw [Try.params5] at hA hval
  obtain ⟨v0, vs0, d0, ds0, p0, q0, hargs, rfl, rfl, h0, hr0⟩ := trodAll_cons hA
  obtain ⟨v1, vs1, d1, ds1, p1, q1, rfl, rfl, rfl, h1, hr1⟩ := trodAll_cons hr0
  obtain ⟨v2, vs2, d2, ds2, p2, q2, rfl, rfl, rfl, h2, hr2⟩ := trodAll_cons hr1
  obtain ⟨rfl, rfl, rfl⟩ := trodAll_nil hr2
  obtain rfl : args = #[v0, v1, v2] := by cases args; simp_all
  obtain ⟨rfl, rfl⟩ := trodVars_none hV
  obtain ⟨N, rfl, rfl, rfl, w0⟩ := open_int Try.underlying5 (hval 0 5 v0 rfl rfl) h0
  obtain ⟨ll, al, cl, rfl, hs1⟩ := h_arg_bytes (hval 1 22 v1 rfl rfl) h1
  obtain ⟨lv, av, cv, rfl, hs2⟩ := h_arg_bytes (hval 2 22 v2 rfl rfl) h2
  have hN := h_u8_range w0
  have hlt := hW'.lt
  refine (walk N hN.1 hN.2 ll cl lv cv W.heap.size al av W hs1 hs2 (Nat.le_refl _)).mono fun e W' ⟨he, hb⟩ => ?_
  subst he
  have t1 := Below.trod h_laidOut (by kernel_rfl) (of_decide_eq_true (by kernel_rfl)) h1 hb (fun x hx => hlt x (by simp [hx]))
  have t2 := Below.trod h_laidOut (by kernel_rfl) (of_decide_eq_true (by kernel_rfl)) h2 hb (fun x hx => hlt x (by simp [hx]))
  exact ⟨_, rfl, ⟨_, _, _, [], _, [], hW', trodAll_mk1 (shut_bool Try.underlying4 _), ⟨_, _, shut_int Try.underlying5 w0, trodAll_mk2 t1 t2, rfl⟩, rfl, hb.frame _, fun h => by cases h⟩⟩

theorem over : Rows.solveLeastRow.holds Try.pinned (OpenSpec.ofChange Rows.solveLeastSpec) :=
  OpenClaim.holds_of_wide 5 Try.f5 rfl rfl rfl rfl rfl rfl rfl ⟨rfl, rfl, rfl, rfl, rfl⟩ rfl rfl rfl rfl rfl (by kernel_rfl) Try.func5 (by kernel_rfl)
    (of_decide_eq_true (by kernel_rfl)) (by unfold Func.isWrapper; first | (rw [if_pos (by decide +kernel)]; kernel_rfl) | (rw [if_neg (by decide +kernel)]; exact ⟨rfl, rfl⟩))
    (fun os started H enc _ => lifted os started H enc)

/-- THE STATEMENT -/
theorem proved : Rows.SolveLeastSaid :=
  over
#print axioms proved
end Go.Proofs.Ytkjmhjeebamehaa.solveLeast
