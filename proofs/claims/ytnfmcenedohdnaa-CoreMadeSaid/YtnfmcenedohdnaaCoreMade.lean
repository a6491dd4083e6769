/- For all numbers the law CoreMade returns true: of clauses by numbers and any places the program tells what the document says. No condition. -/
import Derived.Test.YtnfmcenedohdnaaKaw
import Derived.Test.YtnfmcenedohdnaaKprov
import Derived.Test.YtnfmcenedohdnaaHmade
import Derived.Test.YtnfmcenedohdnaaHopen
import Derived.Test.YtnfmcenedohdnaaWpl
import Derived.Carry
namespace Go.Proofs.Ytnfmcenedohdnaa.coreMade
open Go.ChangeShapes Go.WideShapes Go.ChangeAt Go.RowKit

theorem open_bool {H : Type} {enc : TypeId × Value → H} {W : World} {base : Nat} {spare : Nat → Bool} {held : Bool} {r : Reach} {b0 : Nat} {t : TypeId} {v : Value} {d : DataW H} {ps : List MemPlace} (ht : Try.prog.underlying t = some .bool) (hval : Value.okWide Try.prog W r b0 t v) (hd : DataW.Trod enc Try.prog W base spare held t v d ps) :
    ∃ b, v = .bool b ∧ d = .lit (.bool b) ∧ ps = [] := by
  obtain ⟨b, rfl⟩ := okWide_bool ht hval
  obtain ⟨fuel, hf⟩ := hd
  cases fuel with
  | zero => simp [DataW.trod] at hf
  | succ fuel =>
    simp [DataW.trod, Value.cells, ht] at hf
    obtain ⟨h1, h2⟩ := hf
    exact ⟨b, rfl, by simp_all, by simp_all⟩
set_option maxRecDepth 100000 in
set_option maxHeartbeats 8000000 in
theorem walk (hC : CoreC) (hP : ProvC) (n : Int) (h0 : 0 ≤ n) (h1 : n < 256) (ll cl lv cv B : Nat) (al av : Option Addr) (raw : Bool) (w : World) (hl : ByIn w (· < B) ll al cl) (hv : ByIn w (· < B) lv av cv) (hB : B ≤ w.heap.size) :
    Calls Try.prog 4 #[.int .u8 n, .slice al ll cl, .slice av lv cv, .bool raw] w fun e w' => e = .returned (.bool true) ∧ Below w.heap.size w w' := by
  have CM := Lib.hid (fun W (h : Below w.heap.size w W) => made8_any n h0 h1 ll cl B al W (hl.below (h.mono hB)) (Nat.le_trans hB h.size))
  have CV := Lib.hid (fun W => vars8_any n h0 h1 W)
  have CA := Lib.hid (fun W => awake10_any hC hP W)
  have CS := Lib.hid (fun (V : Int) (l : List Cl) (ps : List Int) x c y d (W1 W2 W : World) (hc : ClsIn W1 (· < W1.heap.size) l x c) (bc : Below W1.heap.size W1 W) (hi : IntsIn W2 (· < W2.heap.size) ps y d) (bi : Below W2.heap.size W2 W) (hp : ps.length ≤ 1000) => same10_any hC hP V l ps x y c d W.heap.size W ((hc.below bc).mono bc.size) ((hi.below bi).mono bi.size) (Nat.le_refl _) hp)
  have HV := Lib.hid (varsN_bd n)
  have HI := Lib.hid hv
  have hlv := hv.lenLe
  generalize varsN n = V at CM CV HV
  clear hl hv hC hP
  go_enter Try.func4, Try.ntmps4
  go_wp2_with fail
  go_loopw [9, 10, 11] (fun pv zv iv wr => ∃ (k : Nat) (ps : List Int) (z : Int) (v : Value), pv = v ∧ zv = .int .i64 z ∧ iv = .int .i64 k ∧ k ≤ 20 ∧ k ≤ lv ∧ ps.length = k ∧ -1 ≤ z ∧ z ≤ 31 + 3 * (k : Int) ∧ Hid (IOwn wr w.heap.size v ps) ∧ Hid (Below w.heap.size w wr)) (fun _ _ iv _ => 20 - (intOf iv).toNat)
  case atStart => exact ⟨0, [], -1, _, rfl, rfl, rfl, by omega, by omega, rfl, by omega, by omega, Lib.hid (IOwn.nil _ _), Lib.hid (Below.refl _ _)⟩
  case round =>
    obtain ⟨k, ps, z, v, rfl, rfl, rfl, hk, hkl, hps, hz1, hz2, hown, hb⟩ := hrel
    have hk0 : (0 : Int) ≤ (k : Int) := by omega
    by_cases hgo : k < lv ∧ k < 20
    · obtain ⟨hgl, hg2⟩ := hgo
      have d1 : decide ((k : Int) < (lv : Int)) = true := by simp; omega
      have d2 : decide ((k : Int) < 20) = true := by simp; omega
      have hgl' : (k : Int) < (lv : Int) := by omega
      obtain ⟨g, o, y, rfl, hgB, y0, y1, hy⟩ := (HI.out.below (hb.out.mono hB)).at hgl
      have y2 := Int.emod_nonneg y (b := 3) (by omega)
      have y3 := Int.emod_lt_of_pos y (b := 3) (by omega)
      have y4 := Int.emod_nonneg y (b := 32) (by omega)
      have y5 := Int.emod_lt_of_pos y (b := 32) (by omega)
      have HM := Lib.hid (fun x => hown.out.more hb.out 23 x (by omega))
      obtain ⟨xv, cv2, rfl⟩ := hown.out.form
      rw [hps] at HM ⊢
      clear hown
      cases raw with
      | true =>
        obtain ⟨g2, c2, w3, HRUN, HOW3, HB3⟩ := HM.out (y % 32)
        clear HM
        go_wp2_with (at_builtin; refine wpList_append_run (by rfl) _ _ _ (by rfl) (by rfl) (by rfl) HRUN.out ?_)
        go_roundw
        case rel => exact ⟨k + 1, ps ++ [y % 32], _, _, rfl, rfl, by go_num, by omega, by omega, by rw [List.length_append, hps]; rfl, by omega, by omega, HOW3, HB3⟩
        case measure => simp [intOf]; omega
      | false =>
        obtain ⟨g2, c2, w3, HRUN, HOW3, HB3⟩ := HM.out (z + 1 + y % 3)
        clear HM
        go_wp2_with (at_builtin; refine wpList_append_run (by rfl) _ _ _ (by rfl) (by rfl) (by rfl) HRUN.out ?_)
        go_roundw
        case rel => exact ⟨k + 1, ps ++ [z + 1 + y % 3], _, _, rfl, rfl, by go_num, by omega, by omega, by rw [List.length_append, hps]; rfl, by omega, by omega, HOW3, HB3⟩
        case measure => simp [intOf]; omega
    · have hN : Hid (ps.length ≤ 1000) := Lib.hid (by omega)
      obtain ⟨xv, cv2, rfl⟩ := hown.out.form
      have HP := Lib.hid hown.out.ints
      have B0 := hb
      rw [hps]
      have hcase : k = lv ∨ (k < lv ∧ k = 20) := by
        by_cases h : k < lv
        · exact .inr ⟨h, by omega⟩
        · exact .inl (by omega)
      clear hgo hown HI
      rcases hcase with rfl | ⟨d1, rfl⟩
      all_goals
        have hk9 : (0 : Int) ≤ 20 := by omega
        go_wp2_with fail
        refine (CA.out _).mono ?_
        rintro e w1 ⟨rfl, b1⟩
        have B1 := Lib.hid (Below.step B0.out b1 (Nat.le_refl _))
        have L1 := Lib.hid b1
        clear b1
        go_wp2_with fail
        refine (CV.out _).mono ?_
        rintro e w' ⟨rfl, rfl⟩
        go_wp2_with fail
        refine (CM.out _ B1.out).mono ?_
        rintro e w2 ⟨l, x, c, rfl, hco, _, _, b2⟩
        have HC := Lib.hid (hco.cls.weak (Q := (· < w2.heap.size)) (fun b hb => hb.2))
        have B2 := Lib.hid (Below.step B1.out b2 (Nat.le_refl _))
        have L2 := Lib.hid (Below.step L1.out b2 (Nat.le_refl _))
        clear hco b2
        go_wp2_with fail
        have CS2 := CS.out (V : Int) l ps x c xv cv2 w2 wr w2 HC.out (Below.refl _ _) HP.out L2.out hN.out
        rw [hps] at CS2
        refine CS2.mono ?_
        rintro e w3 ⟨rfl, b3⟩
        have B3 := Lib.hid (Below.step B2.out b3 (Nat.le_refl _))
        clear b3 CS2
        go_wp2_with fail
        go_ret
        exact ⟨rfl, B3.out⟩

theorem own : ownKnob Try.prog.godebug = none := by kernel_rfl

set_option maxRecDepth 100000 in
theorem lifted (hC : CoreC) (hP : ProvC) (os : Os) (started : os.Started) (H : Type) (enc : TypeId × Value → H) :
    ReturnsInHanded {} Try.checked os 4 .any (Rows.coreMadeSpec.pre6 enc Try.prog Try.f4 Rows.coreMadeRow.domain false) (Rows.coreMadeSpec.post enc Try.prog Try.f4 false true false false) := by
  refine returnsInHanded_of_change (C := Try.checked) own started (by kernel_rfl) Try.func4
    (ChangeSpec.witness6 (enc := enc) (C := Try.checked) false ⟨#[], #[.int .u8 0, .slice none 0 0, .slice none 0 0, .bool false], []⟩ 8 (by kernel_rfl) (by kernel_rfl) (by kernel_rfl) (by kernel_rfl)) ?_
  intro W base args ds gs before hval0 hW hcnd _
  have hval : ∀ (j : Nat) t v, Try.f4.params[j]? = some t → args[j]? = some v → Value.okWide Try.prog W .any base t v := hval0
  have hW' := hW
  obtain ⟨p, q, hA0, hV, rfl, hfz, hnd⟩ := hW
  have hA : DataW.TrodAll enc Try.prog W 0 (fun _ => true) true Try.f4.params.toList args.toList ds p := hA0
  rw [Try.params4] at hA hval
  obtain ⟨v0, vs0, d0, ds0, p0, q0, hargs, rfl, rfl, h0, hr0⟩ := trodAll_cons hA
  obtain ⟨v1, vs1, d1, ds1, p1, q1, rfl, rfl, rfl, h1, hr1⟩ := trodAll_cons hr0
  obtain ⟨v2, vs2, d2, ds2, p2, q2, rfl, rfl, rfl, h2, hr2⟩ := trodAll_cons hr1
  obtain ⟨v3, vs3, d3, ds3, p3, q3, rfl, rfl, rfl, h3, hr3⟩ := trodAll_cons hr2
  obtain ⟨rfl, rfl, rfl⟩ := trodAll_nil hr3
  obtain rfl : args = #[v0, v1, v2, v3] := by cases args; simp_all
  obtain ⟨rfl, rfl⟩ := trodVars_none hV
  obtain ⟨N, rfl, rfl, rfl, w0⟩ := open_int Try.underlying5 (hval 0 5 v0 rfl rfl) h0
  obtain ⟨ll, al, cl, rfl, hs1⟩ := h_arg_bytes (hval 1 31 v1 rfl rfl) h1
  obtain ⟨lv, av, cv, rfl, hs2⟩ := h_arg_bytes (hval 2 31 v2 rfl rfl) h2
  obtain ⟨R, rfl, rfl, rfl⟩ := open_bool Try.underlying4 (hval 3 4 v3 rfl rfl) h3
  have hN := h_u8_range w0
  have hlt := hW'.lt
  refine (walk hC hP N hN.1 hN.2 ll cl lv cv W.heap.size al av R W hs1 hs2 (Nat.le_refl _)).mono fun e W' ⟨he, hb⟩ => ?_
  subst he
  have t1 := Below.trod h_laidOut (by kernel_rfl) (of_decide_eq_true (by kernel_rfl)) h1 hb (fun x hx => hlt x (by simp [hx]))
  have t2 := Below.trod h_laidOut (by kernel_rfl) (of_decide_eq_true (by kernel_rfl)) h2 hb (fun x hx => hlt x (by simp [hx]))
  exact ⟨_, rfl, ⟨_, _, _, [], _, [], hW', trodAll_mk1 (shut_bool Try.underlying4 _), ⟨_, _, shut_int Try.underlying5 w0, ⟨_, _, t1, trodAll_mk2 t2 (shut_bool Try.underlying4 _), rfl⟩, rfl⟩, rfl, hb.frame _, fun h => by cases h⟩⟩

theorem over : Rows.coreMadeRow.holds Try.pinned (OpenSpec.ofChange Rows.coreMadeSpec) :=
  OpenClaim.holds_of_wide 4 Try.f4 rfl rfl rfl rfl rfl rfl rfl ⟨rfl, rfl, rfl, rfl, rfl⟩ rfl rfl rfl rfl rfl (by kernel_rfl) Try.func4 (by kernel_rfl)
    (of_decide_eq_true (by kernel_rfl)) (by unfold Func.isWrapper; first | (rw [if_pos (by decide +kernel)]; kernel_rfl) | (rw [if_neg (by decide +kernel)]; exact ⟨rfl, rfl⟩))
    (fun os started H enc _ => lifted coreC provC os started H enc)

/-- THE STATEMENT -/
theorem proved : Rows.CoreMadeSaid :=
  over
#print axioms proved
end Go.Proofs.Ytnfmcenedohdnaa.coreMade
