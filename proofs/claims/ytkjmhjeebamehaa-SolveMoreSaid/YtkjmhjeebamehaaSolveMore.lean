/- For all numbers the law SolveMore returns true: with a clause more no value of the least model is less; one that held makes no difference; their order makes none. No condition. -/
import Derived.Test.YtkjmhjeebamehaaJawake
import Derived.Test.YtkjmhjeebamehaaJfrom
import Derived.Test.YtkjmhjeebamehaaJmore
import Derived.Test.YtkjmhjeebamehaaHrbroken
import Derived.Test.YtkjmhjeebamehaaHmade
import Derived.Test.YtkjmhjeebamehaaMany
import Derived.Test.YtkjmhjeebamehaaHopen
import Derived.Test.YtkjmhjeebamehaaStep
import Derived.Deep.RegionLaw
import Derived.Carry
namespace Go.Proofs.Ytkjmhjeebamehaa.solveMore
open Go.ChangeShapes Go.WideShapes Go.ChangeAt Go.RowKit

theorem solve_at {V N : Nat} (hV : V ≤ 1000) {l : List Cl} {x : Option Addr} {c : Nat} {W1 W : World} (hc : ClsIn W1 (· < W1.heap.size) l x c) (b1 : Below W1.heap.size W1 W) (hl : l.length = N) : Calls Try.prog 13 #[.int .i64 V, .slice x N c] W (SvPost V l W) := by
  subst hl
  exact jSolve_any V hV l x c W.heap.size W ((hc.below b1).mono b1.size) (Nat.le_refl _)
theorem eq_next {p : Nat → Prop} {i : Nat} {h : Bool} (hm : h = true ↔ ∀ j, j < i → p j) (hp : p i) : h = true ↔ ∀ j, j < i + 1 → p j :=
  ⟨fun e => up_to (hm.1 e) hp, fun e => hm.2 fun j hj => e j (by omega)⟩
theorem eq_stop {p : Nat → Prop} {i : Nat} (hp : ¬ p i) : (false = true) ↔ (∀ j, j < i + 1 → p j) := ⟨fun e => (by cases e), fun e => absurd (e i (by omega)) hp⟩

set_option maxRecDepth 100000 in
set_option maxHeartbeats 16000000 in
theorem walk (n at8 : Int) (h0 : 0 ≤ n) (h1 : n < 256) (t0 : 0 ≤ at8) (t1 : at8 < 256) (ll cl B : Nat) (al : Option Addr) (w : World) (hl : ByIn w (· < B) ll al cl) (hB : B ≤ w.heap.size) :
    Calls Try.prog 7 #[.int .u8 n, .slice al ll cl, .int .u8 at8] w fun e w' => e = .returned (.bool true) ∧ Below w.heap.size w w' := by
  have CM := Lib.hid (fun W (h : Below w.heap.size w W) => made8_any n h0 h1 ll cl B al W (hl.below (h.mono hB)) (Nat.le_trans hB h.size))
  have CV := Lib.hid (fun W => vars8_any n h0 h1 W)
  have hV := varsN_bd n
  generalize varsN n = V at CM CV hV
  obtain ⟨hV1, hV2⟩ := hV
  clear hl
  go_enter Try.func7, Try.ntmps7
  go_wp2_with fail
  refine (awake9_any _).mono ?_
  rintro e w1 ⟨rfl, b1⟩
  have B1 := Lib.hid b1
  clear b1
  go_wp2_with fail
  refine (CV.out _).mono ?_
  rintro e w' ⟨rfl, rfl⟩
  go_wp2_with fail
  refine (CM.out _ B1.out).mono ?_
  rintro e w2 ⟨l, x, c, rfl, hco, hall, h30, b2⟩
  have B2 := Lib.hid (Below.step B1.out b2 (Nat.le_refl _))
  by_cases hl0 : l.length = 0
  · as_aux_lemma =>
    clear hco hall b2
    have d0 : ((l.length : Int) == 0) = true := by simpa using hl0
    go_wp2_with fail
    go_ret
    exact ⟨rfl, B2.out⟩
  · have HC := Lib.hid (hco.cls.weak (Q := (· < w2.heap.size)) (fun b hb => hb.2))
    obtain ⟨g, rfl⟩ : ∃ g, x = some ⟨g, 0, none⟩ := by
      obtain ⟨xs, ⟨_, hx⟩, _⟩ := id hco
      rcases hx with ⟨_, h0⟩ | ⟨g, cap, cur, e, _⟩
      · exact absurd h0 hl0
      · injection e with e; exact ⟨g, e⟩
    have hsrc := HC.out.src (by omega)
    have HSRC := Lib.hid hsrc.1
    have HG : Hid (g < w2.heap.size) := Lib.hid hsrc.2
    have hlc := HC.out.1
    have HR := Lib.hid (hrB_mk (V := V) (l := l) (by omega) (by omega) (by omega) hall)
    have HALL := Lib.hid hall
    have d0 : ((l.length : Int) == 0) = false := by simpa using hl0
    obtain ⟨k, hk⟩ : ∃ k : Nat, at8 % (l.length : Int) = (k : Int) := ⟨(at8 % (l.length : Int)).toNat, by have := Int.emod_nonneg at8 (b := (l.length : Int)) (by omega); omega⟩
    have hkl : k < l.length := by have := Int.emod_lt_of_pos at8 (b := (l.length : Int)) (by omega); omega
    have q0 : (0 : Int) ≤ (k : Int) := by omega
    have q1 : (k : Int) ≤ (c : Int) := by omega
    have q2 : (k : Int) ≤ (l.length : Int) := by omega
    have q3 : (k : Int) + 1 ≤ (l.length : Int) := by omega
    have q4 : (0 : Int) ≤ (k : Int) + 1 := by omega
    have hc0 : ¬ c = 0 := by omega
    have hw1 : IntKind.i64.wrap ((k : Int) + 1) = (k : Int) + 1 := IntWalk.i64_in _ (by omega)
    have hck : ¬ c = k := by omega
    clear hco hall b2 hsrc
    go_wp2_with fail
    rw [hk]
    have hz2 : w2.heap.size ≤ w2.drew.heap.size := Nat.le_refl _
    obtain ⟨v1, W1, x1, c1, W2, HR1, HR2, HC1, HB1, HD1⟩ := two_parts (w := w2) (W := w2.drew) (B := w2.heap.size) (g := g) (a1 := some ⟨g, 0, none⟩) (a2 := if c = k + 1 then some ⟨g, 0, none⟩ else some ⟨g, (k + 1) * 3, none⟩) (n1 := k) (n2 := l.length - (k + 1)) (n3 := l.length - 1) (c1 := c) (c2 := c - (k + 1)) (p := l.take k) (q := l.drop (k + 1)) 26 (Nat.le_refl _) HG.out (Below.refl _ _).drew ⟨0, rfl, fun _ => HSRC.out.take k⟩
      (by
        by_cases hcut : c = k + 1
        · rw [if_pos hcut]
          exact ⟨0, rfl, fun h => by rw [List.length_drop] at h; omega⟩
        · rw [if_neg hcut]
          exact ⟨(k + 1) * 3, rfl, fun _ => by have := HSRC.out.drop (k + 1); rwa [Nat.zero_add] at this⟩) (by rw [List.length_take]; omega) (by rw [List.length_drop]) (by omega) (by omega)
    have hl1 : (l.take k ++ l.drop (k + 1)).length = l.length - 1 := by rw [List.length_append, List.length_take, List.length_drop]; omega
    have hl2 : (l.drop k ++ l.take k).length = l.length := by rw [List.length_append, List.length_take, List.length_drop]; omega
    obtain ⟨less, hless⟩ : ∃ p, p = l.take k ++ l.drop (k + 1) := ⟨_, rfl⟩
    rw [← hless] at HC1 hl1
    have HLE := Lib.hid hless
    obtain ⟨v2, W3, x2, c2, W4, HR3, HR4, HC2, HB2, HD2⟩ := two_parts (w := w2) (W := W2.drew) (B := w2.heap.size) (g := g) (a1 := some ⟨g, k * 3, none⟩) (a2 := some ⟨g, 0, none⟩) (n1 := l.length - k) (n2 := k) (n3 := l.length) (c1 := c - k) (c2 := c) (p := l.drop k) (q := l.take k) 26 (Nat.le_refl _) HG.out HB1.out.drew ⟨k * 3, rfl, fun _ => by have := HSRC.out.drop k; rwa [Nat.zero_add] at this⟩ ⟨0, rfl, fun _ => HSRC.out.take k⟩ (by rw [List.length_drop]) (by rw [List.length_take]; omega) (by omega) (by omega)
    obtain ⟨turned, hturned⟩ : ∃ p, p = l.drop k ++ l.take k := ⟨_, rfl⟩
    rw [← hturned] at HC2 hl2
    have HTU := Lib.hid hturned
    have HL1 := Lib.hid hl1
    have HL2 := Lib.hid hl2
    have HK := Lib.hid hk
    clear hless hturned hl1 hl2
    have _hS : True := trivial
    go_region_held3 (fun _ => True) (trivial) (first | (refine step_append (by rfl) _ _ _ (by rfl) (by rfl) (by rfl) HR1.out ?_) | (refine step_append (by rfl) _ _ _ (by rfl) (by rfl) (by rfl) HR2.out ?_))
    generalize (if c = k + 1 then (some ⟨g, 0, none⟩ : Option Addr) else some ⟨g, (k + 1) * 3, none⟩) = ad
    clear HR1 HR2
    go_wp2_with fail
    go_region_held3 (fun _ => True) (trivial) (first | (refine step_append (by rfl) _ _ _ (by rfl) (by rfl) (by rfl) HR3.out ?_) | (refine step_append (by rfl) _ _ _ (by rfl) (by rfl) (by rfl) HR4.out ?_))
    go_wp2_with fail
    have LW := Lib.hid ((Below.refl W2.heap.size W2).drew.trans HD2.out)
    have HMX := HC.out.2.1
    have HONE : Hid (∀ W, Below w2.heap.size w2 W → ClsIn W (· < W.heap.size) [l.getD k cl0] (some ⟨g, k * 3, none⟩) (c - k)) := Lib.hid (fun W hW => by
      have := (HSRC.out.one (cap := c - k) hkl (by omega) (by unfold maxLen at HMX ⊢; omega) HG.out).below hW
      rw [Nat.zero_add] at this
      exact this.mono hW.size)
    have B4 := Lib.hid (Below.step B2.out HB2.out (Nat.le_refl _))
    clear HR3 HR4 HB1 HD1 HD2 HSRC hk
    refine (solve_at (by omega) HC.out HB2.out rfl).mono ?_
    rintro e w5 ⟨a, is, n1, e1, xa, ca, rfl, hs1, ho, b5⟩
    have HS1 := Lib.hid hs1
    have RA := Lib.hid (RowL.of ho)
    have B5 := Lib.hid (Below.step B4.out b5 (Nat.le_refl _))
    have L25 := Lib.hid (Below.step HB2.out b5 (Nat.le_refl _))
    have LW5 := Lib.hid (Below.step LW.out b5 (Nat.le_refl _))
    have L45 := Lib.hid b5
    clear hs1 ho b5 LW HB2
    go_wp2_with fail
    refine (solve_at (by omega) HC1.out LW5.out HL1.out).mono ?_
    rintro e w6 ⟨b, are, n2, e2, xb, cb, rfl, hs2, ho, b6⟩
    have HS2 := Lib.hid hs2
    have RB := Lib.hid (RowL.of ho)
    have B6 := Lib.hid (Below.step B5.out b6 (Nat.le_refl _))
    have L26 := Lib.hid (Below.step L25.out b6 (Nat.le_refl _))
    have L46 := Lib.hid (Below.step L45.out b6 (Nat.le_refl _))
    have L56 := Lib.hid b6
    clear hs2 ho b6 LW5 L25 L45
    go_wp2_with fail
    refine (solve_at (by omega) HC2.out L46.out HL2.out).mono ?_
    rintro e w7 ⟨d, so, n3, e3, xd, cd, rfl, hs3, ho, b7⟩
    obtain ⟨rfl, rfl, rfl, hso, hda, hyes⟩ := more_facts HR.out hkl HLE.out HTU.out HS1.out HS2.out hs3
    obtain rfl := hso.symm
    obtain rfl := hda.symm
    have HYES := Lib.hid hyes
    have RD := Lib.hid (RowL.of ho)
    have B7 := Lib.hid (Below.step B6.out b7 (Nat.le_refl _))
    have L27 := Lib.hid (Below.step L26.out b7 (Nat.le_refl _))
    have L57 := Lib.hid (Below.step L56.out b7 (Nat.le_refl _))
    have L67 := Lib.hid b7
    clear hs3 ho b7 L26 L46 L56 hso hda hyes HS1 HS2 HLE HTU HC1 HC2 HL1 HL2 HALL HC
    go_wp2_with fail
    refine (ints_eq RA.out L57.out RD.out (Below.refl _ _) _ rfl).mono ?_
    rintro e w8 ⟨rfl, b8⟩
    have B8 := Lib.hid (Below.step B7.out b8 (Nat.le_refl _))
    have L28 := Lib.hid (Below.step L27.out b8 (Nat.le_refl _))
    have L58 := Lib.hid (Below.step L57.out b8 (Nat.le_refl _))
    have L68 := Lib.hid (Below.step L67.out b8 (Nat.le_refl _))
    clear b8 L27 L57 L67
    cases is with
    | false => as_aux_lemma =>
      clear HYES RA RB RD L28 L58 L68 HONE
      go_wp2_with fail
      go_ret
      exact ⟨rfl, B8.out⟩
    | true =>
      obtain ⟨rfl, hal, hbl, hbn, hba, hiff⟩ := HYES.out rfl
      have HBA := Lib.hid hba
      have HAL := Lib.hid hal
      have HBL := Lib.hid hbl
      have HIFF := Lib.hid hiff
      have HKB := bk_ok (one_ok HR.out hkl hbl hbn)
      have CBK := Lib.hid (fun (W : World) (h2 : Below w2.heap.size w2 W) (h6 : Below w6.heap.size w6 W) => by
        have h := RB.out W h6
        have := r8Broken_any b [l.getD k cl0] (some ⟨g, k * 3, none⟩) xb (c - k) cb W.heap.size W (HONE.out W h2) (h.1.mono h.2) (Nat.le_refl _)
        rw [HKB.1, HKB.2, hbl] at this
        exact this)
      rw [hal, hbl]
      clear HYES hal hbl hbn hba hiff HKB HR RD HONE
      go_wp2_with fail
      go_loopw [25, 26] (fun mv iv wr => ∃ (i : Nat) (mo : Bool), mv = .bool mo ∧ iv = .int .i64 i ∧ i ≤ V ∧ Hid (mo = true ↔ ∀ j, j < i → b.getD j 0 = a.getD j 0) ∧ Hid (Below w8.heap.size w8 wr)) (fun _ iv _ => V - (intOf iv).toNat)
      case atStart => exact ⟨0, true, rfl, rfl, by omega, Lib.hid ⟨fun _ j h => absurd h (by omega), fun _ => rfl⟩, Lib.hid (Below.refl _ _)⟩
      case round =>
        obtain ⟨i, mo, rfl, rfl, hi, hmo, hb⟩ := hrel
        by_cases hlt : i < V
        · obtain ⟨ga, oa, rfl, ea⟩ := RA.out.cell (Below.step L58.out hb.out (Nat.le_refl _)) (i := i) (by rw [HAL.out]; exact hlt)
          obtain ⟨gb, ob, rfl, eb⟩ := RB.out.cell (Below.step L68.out hb.out (Nat.le_refl _)) (i := i) (by rw [HBL.out]; exact hlt)
          have hle := HBA.out i
          have hi0 : (0 : Int) ≤ (i : Int) := by omega
          have hlt' : (i : Int) < (V : Int) := by omega
          have HY := Lib.hid (fun h => eq_next (p := fun j => b.getD j 0 = a.getD j 0) hmo.out h)
          have HN := Lib.hid (fun h => eq_stop (p := fun j => b.getD j 0 = a.getD j 0) (i := i) h)
          have HM0 : Hid (mo = false → ((false = true) ↔ (∀ j, j < i + 1 → b.getD j 0 = a.getD j 0))) := Lib.hid (fun hm => ⟨fun e => (by cases e), fun e => by
            have := hmo.out.2 (fun j hj => e j (by omega))
            rw [hm] at this; cases this⟩)
          have HBN : Hid (∀ k, Below w8.heap.size w8 (wr.drewN k)) := Lib.hid (fun k => Below.draws hb.out k)
          generalize a.getD i 0 = p at ea hle HY HN
          generalize b.getD i 0 = q at eb hle HY HN
          have d1 : decide (p < q) = false := decide_eq_false (by omega)
          have ea' : ∀ k, (wr.drewN k).cell? ⟨ga, oa + i, none⟩ = some (.int .i64 p) := fun _ => ea
          have eb' : ∀ k, (wr.drewN k).cell? ⟨gb, ob + i, none⟩ = some (.int .i64 q) := fun _ => eb
          clear hmo
          cases mo with
          | false =>
            have HF := Lib.hid (HM0.out rfl)
            clear HY HN HM0
            go_wp2_with fail
            go_quiet (fail)
            go_wp2_with fail
            go_quiet (fail)
            go_wp2_with fail
            go_roundw
            case rel => exact ⟨i + 1, false, rfl, by go_num, by omega, HF, Lib.hid (HBN.out _)⟩
            case measure => simp [intOf]; omega
          | true =>
            by_cases hqp : q = p
            · have HF := Lib.hid ((HY.out hqp).1 rfl)
              clear HY HN HM0
              subst hqp
              have d2 : (q == q) = true := by simp
              go_wp2_with fail
              go_quiet (fail)
              go_wp2_with fail
              go_quiet (fail)
              go_wp2_with fail
              go_roundw
              case rel => exact ⟨i + 1, true, rfl, by go_num, by omega, Lib.hid ⟨fun _ => HF.out, fun _ => rfl⟩, Lib.hid (HBN.out _)⟩
              case measure => simp [intOf]; omega
            · have HF := Lib.hid (HN.out hqp)
              have d2 : (q == p) = false := by simpa using hqp
              clear HY HN HM0
              go_wp2_with fail
              go_quiet (fail)
              go_wp2_with fail
              go_quiet (fail)
              go_wp2_with fail
              go_roundw
              case rel => exact ⟨i + 1, false, rfl, by go_num, by omega, HF, Lib.hid (HBN.out _)⟩
              case measure => simp [intOf]; omega
        · obtain rfl : i = V := by omega
          have hlt' : ¬ (i : Int) < (i : Int) := by omega
          have HFIN : Hid (mo = true ↔ (brkL b [l.getD k cl0]).length = 0) := Lib.hid (hmo.out.trans (HIFF.out.trans ⟨fun h => by rw [brkL_none.2 h]; rfl, fun h => brk_nil h⟩))
          have B9 := Lib.hid (Below.step B8.out hb.out (Nat.le_refl _))
          have CB := CBK.out wr (Below.step L28.out hb.out (Nat.le_refl _)) (Below.step L68.out hb.out (Nat.le_refl _))
          generalize brkL b [l.getD k cl0] = bl at HFIN CB
          clear hmo HIFF CBK HBA RA RB
          go_wp2_with fail
          refine CB.mono ?_
          clear CB
          rintro e w9 ⟨xx, cx, rfl, hob, b9⟩
          have hlb := hob.ints.len
          have B10 := Lib.hid (Below.step B9.out b9 (Nat.le_refl _))
          clear hob b9 B9
          generalize bl.length = nb at HFIN hlb
          by_cases hn0 : nb = 0
          · obtain rfl : mo = true := HFIN.out.2 hn0
            clear HFIN
            subst hn0
            go_wp2_with fail
            go_ret
            exact ⟨rfl, B10.out⟩
          · obtain rfl : mo = false := by
              cases mo with
              | false => rfl
              | true => exact absurd (HFIN.out.1 rfl) hn0
            have d3 : ((nb : Int) == 0) = false := by simpa using hn0
            clear HFIN
            go_wp2_with fail
            go_ret
            exact ⟨rfl, B10.out⟩

theorem own : ownKnob Try.prog.godebug = none := by kernel_rfl

set_option maxRecDepth 100000 in
theorem lifted (os : Os) (started : os.Started) (H : Type) (enc : TypeId × Value → H) :
    ReturnsInHanded {} Try.checked os 7 .any (Rows.solveMoreSpec.pre6 enc Try.prog Try.f7 Rows.solveMoreRow.domain false) (Rows.solveMoreSpec.post enc Try.prog Try.f7 false true false false) := by
  refine returnsInHanded_of_change (C := Try.checked) own started (by kernel_rfl) Try.func7
    (ChangeSpec.witness6 (enc := enc) (C := Try.checked) false ⟨#[], #[.int .u8 0, .slice none 0 0, .int .u8 0], []⟩ 8 (by kernel_rfl) (by kernel_rfl) (by kernel_rfl) (by kernel_rfl)) ?_
  intro W base args ds gs before hval0 hW hcnd _
  have hval : ∀ (j : Nat) t v, Try.f7.params[j]? = some t → args[j]? = some v → Value.okWide Try.prog W .any base t v := hval0
  have hW' := hW
  obtain ⟨p, q, hA0, hV, rfl, hfz, hnd⟩ := hW
  have hA : DataW.TrodAll enc Try.prog W 0 (fun _ => true) true Try.f7.params.toList args.toList ds p := hA0
  rw [Try.params7] at hA hval
  obtain ⟨v0, vs0, d0, ds0, p0, q0, hargs, rfl, rfl, h0, hr0⟩ := trodAll_cons hA
  obtain ⟨v1, vs1, d1, ds1, p1, q1, rfl, rfl, rfl, h1, hr1⟩ := trodAll_cons hr0
  obtain ⟨v2, vs2, d2, ds2, p2, q2, rfl, rfl, rfl, h2, hr2⟩ := trodAll_cons hr1
  obtain ⟨rfl, rfl, rfl⟩ := trodAll_nil hr2
  obtain rfl : args = #[v0, v1, v2] := by cases args; simp_all
  obtain ⟨rfl, rfl⟩ := trodVars_none hV
  obtain ⟨N, rfl, rfl, rfl, w0⟩ := open_int Try.underlying5 (hval 0 5 v0 rfl rfl) h0
  obtain ⟨ll, al, cl, rfl, hs1⟩ := h_arg_bytes (hval 1 22 v1 rfl rfl) h1
  obtain ⟨K, rfl, rfl, rfl, w2⟩ := open_int Try.underlying5 (hval 2 5 v2 rfl rfl) h2
  have hN := h_u8_range w0
  have hK := h_u8_range w2
  have hlt := hW'.lt
  refine (walk N K hN.1 hN.2 hK.1 hK.2 ll cl W.heap.size al W hs1 (Nat.le_refl _)).mono fun e W' ⟨he, hb⟩ => ?_
  subst he
  have t1 := Below.trod h_laidOut (by kernel_rfl) (of_decide_eq_true (by kernel_rfl)) h1 hb (fun x hx => hlt x (by simp [hx]))
  exact ⟨_, rfl, ⟨_, _, _, [], _, [], hW', trodAll_mk1 (shut_bool Try.underlying4 _), ⟨_, _, shut_int Try.underlying5 w0, trodAll_mk2 t1 (shut_int Try.underlying5 w2), rfl⟩, rfl, hb.frame _, fun h => by cases h⟩⟩

theorem over : Rows.solveMoreRow.holds Try.pinned (OpenSpec.ofChange Rows.solveMoreSpec) :=
  OpenClaim.holds_of_wide 7 Try.f7 rfl rfl rfl rfl rfl rfl rfl ⟨rfl, rfl, rfl, rfl, rfl⟩ rfl rfl rfl rfl rfl (by kernel_rfl) Try.func7 (by kernel_rfl)
    (of_decide_eq_true (by kernel_rfl)) (by unfold Func.isWrapper; first | (rw [if_pos (by decide +kernel)]; kernel_rfl) | (rw [if_neg (by decide +kernel)]; exact ⟨rfl, rfl⟩))
    (fun os started H enc _ => lifted os started H enc)

/-- THE STATEMENT -/
theorem proved : Rows.SolveMoreSaid :=
  over
#print axioms proved
end Go.Proofs.Ytkjmhjeebamehaa.solveMore
