/- For all numbers the law SolveChain returns true: of clauses that lead from one variable to the next one, and perhaps round, the program tells the least model that the document's own rounds tell. No condition. -/
import Derived.Test.YtkjmhjeebamehaaChain
import Derived.Test.YtkjmhjeebamehaaJawake
import Derived.Test.YtkjmhjeebamehaaHopen
import Derived.Carry
namespace Go.Proofs.Ytkjmhjeebamehaa.solveChain
open Go.ChangeShapes Go.WideShapes Go.ChangeAt Go.RowKit

theorem open_bool {H : Type} {enc : TypeId × Value → H} {W : World} {base : Nat} {spare : Nat → Bool} {held : Bool} {r : Reach} {b0 : Nat} {t : TypeId} {v : Value} {d : DataW H} {ps : List MemPlace} (ht : Try.prog.underlying t = some .bool) (hval : Value.okWide Try.prog W r b0 t v) (hd : DataW.Trod enc Try.prog W base spare held t v d ps) :
    ∃ b, v = .bool b ∧ d = .lit (.bool b) ∧ ps = [] := by
  obtain ⟨b, rfl⟩ := okWide_bool ht hval
  obtain ⟨fuel, hf⟩ := hd
  cases fuel with
  | zero => simp [DataW.trod] at hf
  | succ fuel =>
    simp [DataW.trod, Value.cells, ht] at hf
    obtain ⟨h1, h2⟩ := hf
    exact ⟨b, rfl, by simp_all, by simp_all⟩
theorem u16_range {a : Int} (w0 : (Lit.int .u16 a).wf = true) : 0 ≤ a ∧ a < 65536 := by
  have e1 : IntKind.u16.min = 0 := rfl
  have e2 : IntKind.u16.max = 65535 := rfl
  simp only [Lit.wf, e1, e2, Bool.and_eq_true, decide_eq_true_eq] at w0
  omega
set_option maxRecDepth 100000 in
set_option maxHeartbeats 8000000 in
theorem walk (n off back : Int) (rd : Bool) (h0 : 0 ≤ n) (h1 : n < 256) (o0 : 0 ≤ off) (o1 : off < 65536) (k0 : 0 ≤ back) (k1 : back < 65536) (w : World) :
    Calls Try.prog 4 #[.int .u8 n, .int .u16 off, .int .u16 back, .bool rd] w fun e w' => e = .returned (.bool true) ∧ Below w.heap.size w w' := by
  go_enter Try.func4, Try.ntmps4
  go_wp2_with fail
  obtain ⟨V, hV⟩ : ∃ V : Nat, 2 + n % 15 = (V : Int) := ⟨(2 + n % 15).toNat, by omega⟩
  obtain ⟨q, hq⟩ : ∃ q : Int, off % 1001 = q := ⟨_, rfl⟩
  obtain ⟨r, hr⟩ : ∃ r : Int, back % 3 = r := ⟨_, rfl⟩
  obtain ⟨Q, hQ⟩ : ∃ Q : Int, Q = q * ((V : Int) - 1) := ⟨_, rfl⟩
  have hV2 : 2 ≤ V := by omega
  have hV16 : V ≤ 16 := by omega
  have hq0 : 0 ≤ q := by omega
  have hq1 : q ≤ 1000 := by omega
  have hr0 : 0 ≤ r := by omega
  have hr1 : r ≤ 2 := by omega
  have hQ0 : 0 ≤ Q := by rw [hQ]; exact Int.mul_nonneg hq0 (by omega)
  have hQ1 : Q ≤ 15000 := by
    have h1 := Int.mul_le_mul_of_nonneg_right hq1 (show (0 : Int) ≤ (V : Int) - 1 by omega)
    rw [← hQ] at h1
    omega
  have hw1 : IntKind.i64.wrap (q * ((V : Int) - 1)) = Q := by rw [← hQ]; exact IntWalk.i64_in _ (by omega)
  rw [hV]
  clear hQ
  go_loopw [10, 11] (fun uv iv wr => ∃ (i : Nat) (u : Value) (l : List Cl), uv = u ∧ iv = .int .i64 i ∧ i + 1 ≤ V ∧ Hid (l.length = i) ∧ Hid (COwn wr w.heap.size u l) ∧ Hid (Below w.heap.size w wr)) (fun _ iv _ => V - (intOf iv).toNat)
  case atStart => exact ⟨0, _, [], rfl, rfl, by omega, Lib.hid rfl, Lib.hid (COwn.nil _ _), Lib.hid (Below.refl _ _)⟩
  case round =>
    obtain ⟨i, u, l, rfl, rfl, hi, hl, hown, hb⟩ := hrel
    have hl16 : l.length ≤ 16 := by rw [hl.out]; omega
    by_cases hlt : i + 1 < V
    · obtain ⟨g, k, w3, HRUN, HCO, HB3⟩ := hown.out.link hb.out 26 i 0 ((i : Int) + 1) q (by omega)
      have HL : Hid ((l ++ [([((i : Int), (0 : Int))], ((i : Int) + 1, q))]).length = i + 1) := Lib.hid (by rw [List.length_append, hl.out]; rfl)
      clear hown
      go_wp2_with (at_builtin; refine wpList_append_run (by rfl) _ _ _ (by rfl) (by rfl) (by rfl) HRUN.out ?_)
      go_roundw
      case rel => exact ⟨i + 1, _, _, rfl, by go_num, by omega, HL, HCO, HB3⟩
      case measure => simp [intOf]; omega
    · have hiV : ¬ ((i : Int) + 1 < (V : Int)) := by omega
      obtain ⟨x, c, rfl⟩ := hown.out.form
      have HC := Lib.hid (hown.out.cls.weak (Q := (· < wr.heap.size)) (fun b hb => hb.2))
      have HBW := hb
      cases rd with
      | false => as_aux_lemma =>
        clear hown hl
        go_wp2_with fail
        refine (awake9_any _).mono ?_
        rintro e w4 ⟨rfl, b4⟩
        obtain ⟨W0, hmk, HB0, HN0⟩ := zeros_make V (by omega) w4
        go_wp2_with fail
        refine (chain_end (by omega) (by omega) HC.out HBW.out b4 HB0.out HN0.out _ rfl).mono ?_
        rintro e w5 ⟨rfl, b5⟩
        go_wp2_with fail
        go_ret
        exact ⟨rfl, b5⟩
      | true =>
        by_cases hQk : Q ≤ 1000
        · as_aux_lemma =>
          obtain ⟨g, k, w3, HRUN, HCO, HB3⟩ := hown.out.link hb.out 26 ((V : Int) - 1) (if r < Q then Q - r else 0) 0 0 (by omega)
          have HC3 := Lib.hid (HCO.out.clsN (by rw [List.length_append]; rfl))
          clear hown hl HC HCO
          go_wp2_with (at_builtin; refine wpList_append_run (by rfl) _ _ _ (by rfl) (by rfl) (by rfl) HRUN.out ?_)
          all_goals
            refine (awake9_any _).mono ?_
            rintro e w4 ⟨rfl, b4⟩
            obtain ⟨W0, hmk, HB0, HN0⟩ := zeros_make V (by omega) w4
            go_wp2_with fail
            refine (chain_end (by omega) (by omega) HC3.out HB3.out b4 HB0.out HN0.out _ (by rw [List.length_append]; rfl)).mono ?_
            rintro e w5 ⟨rfl, b5⟩
            go_wp2_with fail
            go_ret
            exact ⟨rfl, b5⟩
        · as_aux_lemma =>
          obtain ⟨g, k, w3, HRUN, HCO, HB3⟩ := hown.out.link hb.out 26 ((V : Int) - 1) (1000 - r) 0 0 (by omega)
          have hz : 0 ≤ 1000 - r := by omega
          have HC3 := Lib.hid (HCO.out.clsN (by rw [List.length_append]; rfl))
          have hkc : (l.length : Int) + 1 ≤ (k : Int) := by have := HC3.out.1; rw [List.length_append] at this; simp at this; omega
          have b0 : (0 : Int) ≤ (l.length : Int) := by omega
          have b1 : (l.length : Int) ≤ (k : Int) := by omega
          have HC4 := Lib.hid (HC3.out.take l.length)
          rw [List.take_left] at HC4
          clear hown hl HC HCO
          go_wp2_with (at_builtin; refine wpList_append_run (by rfl) _ _ _ (by rfl) (by rfl) (by rfl) HRUN.out ?_)
          refine (awake9_any _).mono ?_
          rintro e w4 ⟨rfl, b4⟩
          obtain ⟨W0, hmk, HB0, HN0⟩ := zeros_make V (by omega) w4
          go_wp2_with fail
          refine (chain_end (by omega) (by omega) HC4.out HB3.out b4 HB0.out HN0.out _ rfl).mono ?_
          rintro e w5 ⟨rfl, b5⟩
          go_wp2_with fail
          go_ret
          exact ⟨rfl, b5⟩


theorem own : ownKnob Try.prog.godebug = none := by kernel_rfl

set_option maxRecDepth 100000 in
theorem lifted (os : Os) (started : os.Started) (H : Type) (enc : TypeId × Value → H) :
    ReturnsInHanded {} Try.checked os 4 .any (Rows.solveChainSpec.pre6 enc Try.prog Try.f4 Rows.solveChainRow.domain false) (Rows.solveChainSpec.post enc Try.prog Try.f4 false true false false) := by
  refine returnsInHanded_of_change (C := Try.checked) own started (by kernel_rfl) Try.func4
    (ChangeSpec.witness6 (enc := enc) (C := Try.checked) false ⟨#[], #[.int .u8 0, .int .u16 0, .int .u16 0, .bool false], []⟩ 8 (by kernel_rfl) (by kernel_rfl) (by kernel_rfl) (by kernel_rfl)) ?_
  intro W base args ds gs before hval0 hW hcnd _
  have hval : ∀ (j : Nat) t v, Try.f4.params[j]? = some t → args[j]? = some v → Value.okWide Try.prog W .any base t v := hval0
  have hW' := hW
  obtain ⟨p, q, hA0, hV, rfl, hfz, hnd⟩ := hW
  have hA : DataW.TrodAll enc Try.prog W 0 (fun _ => true) true Try.f4.params.toList args.toList ds p := hA0
  rw [Try.params4] at hA hval
  obtain ⟨v0, vs0, d0, ds0, p0, q0, hargs, rfl, rfl, h0, hr0⟩ := trodAll_cons hA
  obtain ⟨v1, vs1, d1, ds1, p1, q1, rfl, rfl, rfl, h1, hr1⟩ := trodAll_cons hr0
  obtain ⟨v2, vs2, d2, ds2, p2, q2, rfl, rfl, rfl, h2, hr2⟩ := trodAll_cons hr1
  obtain ⟨v3, vs3, d3, ds3, p3, q3, rfl, rfl, rfl, h3, hr3⟩ := trodAll_cons hr2
  obtain ⟨rfl, rfl, rfl⟩ := trodAll_nil hr3
  obtain rfl : args = #[v0, v1, v2, v3] := by cases args; simp_all
  obtain ⟨rfl, rfl⟩ := trodVars_none hV
  obtain ⟨N, rfl, rfl, rfl, w0⟩ := open_int Try.underlying5 (hval 0 5 v0 rfl rfl) h0
  obtain ⟨O, rfl, rfl, rfl, w1⟩ := open_int Try.underlying31 (hval 1 31 v1 rfl rfl) h1
  obtain ⟨K, rfl, rfl, rfl, w2⟩ := open_int Try.underlying31 (hval 2 31 v2 rfl rfl) h2
  obtain ⟨R, rfl, rfl, rfl⟩ := open_bool Try.underlying4 (hval 3 4 v3 rfl rfl) h3
  have hN := h_u8_range w0
  have hO := u16_range w1
  have hK := u16_range w2
  refine (walk N O K R hN.1 hN.2 hO.1 hO.2 hK.1 hK.2 W).mono fun e W' ⟨he, hb⟩ => ?_
  subst he
  exact ⟨_, rfl, ⟨_, _, _, [], _, [], hW', trodAll_mk1 (shut_bool Try.underlying4 _), ⟨_, _, shut_int Try.underlying5 w0, ⟨_, _, shut_int Try.underlying31 w1, trodAll_mk2 (shut_int Try.underlying31 w2) (shut_bool Try.underlying4 _), rfl⟩, rfl⟩, rfl, hb.frame _, fun h => by cases h⟩⟩

theorem over : Rows.solveChainRow.holds Try.pinned (OpenSpec.ofChange Rows.solveChainSpec) :=
  OpenClaim.holds_of_wide 4 Try.f4 rfl rfl rfl rfl rfl rfl rfl ⟨rfl, rfl, rfl, rfl, rfl⟩ rfl rfl rfl rfl rfl (by kernel_rfl) Try.func4 (by kernel_rfl)
    (of_decide_eq_true (by kernel_rfl)) (by unfold Func.isWrapper; first | (rw [if_pos (by decide +kernel)]; kernel_rfl) | (rw [if_neg (by decide +kernel)]; exact ⟨rfl, rfl⟩))
    (fun os started H enc _ => lifted os started H enc)

/-- THE STATEMENT -/
theorem proved : Rows.SolveChainSaid :=
  over
#print axioms proved
end Go.Proofs.Ytkjmhjeebamehaa.solveChain
