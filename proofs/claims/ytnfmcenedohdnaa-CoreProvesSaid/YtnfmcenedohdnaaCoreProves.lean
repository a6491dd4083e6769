/- For all numbers the law CoreProves returns true: what Core tells proves that there is no model, and no part of it does; nothing is told just if there is a model. No condition. -/
import Derived.Test.YtnfmcenedohdnaaKaw
import Derived.Test.YtnfmcenedohdnaaKprov
import Derived.Test.YtnfmcenedohdnaaKparts
import Derived.Test.YtnfmcenedohdnaaHmade
import Derived.Test.YtnfmcenedohdnaaHopen
import Derived.Test.YtnfmcenedohdnaaStep
import Derived.Deep.RegionLaw
import Derived.Carry
namespace Go.Proofs.Ytnfmcenedohdnaa.coreProves
open Go.ChangeShapes Go.WideShapes Go.ChangeAt Go.RowKit

theorem told {V : Nat} {l : List Cl} (hr : hrB V l = true) : ∃ is : Bool, posB V l = is ∧ provB V l (coreR V l) = !is ∧ (((coreR V l).length : Int) == 0) = is ∧ coreE V l = 0 := by
  refine ⟨posB V l, rfl, coreR_proves hr, ?_, by unfold coreE; rw [if_pos hr]⟩
  have := coreR_nil hr
  cases hp : posB V l with
  | true => have := this.2 hp; simp [this]
  | false =>
    have h : ¬ (coreR V l).length = 0 := fun h => by have := this.1 h; rw [hp] at this; cases this
    simpa using h

set_option maxRecDepth 100000 in
set_option maxHeartbeats 16000000 in
theorem walk (hC : CoreC) (hP : ProvC) (n : Int) (h0 : 0 ≤ n) (h1 : n < 256) (ll cl B : Nat) (al : Option Addr) (w : World) (hl : ByIn w (· < B) ll al cl) (hB : B ≤ w.heap.size) :
    Calls Try.prog 6 #[.int .u8 n, .slice al ll cl] w fun e w' => e = .returned (.bool true) ∧ Below w.heap.size w w' := by
  have CM := Lib.hid (fun W (h : Below w.heap.size w W) => made8_any n h0 h1 ll cl B al W (hl.below (h.mono hB)) (Nat.le_trans hB h.size))
  have CV := Lib.hid (fun W => vars8_any n h0 h1 W)
  have CA := Lib.hid (awake10_any hC hP w)
  have hV := varsN_bd n
  generalize varsN n = V at CM CV hV
  obtain ⟨hV1, hV2⟩ := hV
  clear hl
  go_enter Try.func6, Try.ntmps6
  go_wp2_with fail
  refine CA.out.mono ?_
  rintro e w1 ⟨rfl, b1⟩
  have B1 := Lib.hid b1
  clear b1 CA
  go_wp2_with fail
  refine (CV.out _).mono ?_
  rintro e w' ⟨rfl, rfl⟩
  go_wp2_with fail
  refine (CM.out _ B1.out).mono ?_
  rintro e w2 ⟨l, x, c, rfl, hco, hall, h30, b2⟩
  have B2 := Lib.hid (Below.step B1.out b2 (Nat.le_refl _))
  have HC := Lib.hid (hco.cls.weak (Q := (· < w2.heap.size)) (fun b hb => hb.2))
  have hr := hrB_mk (V := V) (l := l) (by omega) (by omega) (by omega) hall
  have CC := hC (V : Int) l x c w2.heap.size w2 HC.out (Nat.le_refl _)
  have HP := Lib.hid (fun (W : World) (h : Below w2.heap.size w2 W) (ps : List Int) (y : Option Addr) (d : Nat) (hi : IntsIn W (· < W.heap.size) ps y d) (hp : ps.length ≤ 1000) => hP (V : Int) l ps x y c d W.heap.size W ((HC.out.below h).mono h.size) hi (Nat.le_refl _) hp)
  have RS := Lib.hid (fun (W : World) (h : Below w2.heap.size w2 W) => r9Solve_int (V : Int) l x c W.heap.size W ((HC.out.below h).mono h.size) (Nat.le_refl _))
  obtain ⟨is, hpos, hprov, hemp, herr⟩ := told hr
  have HPART := Lib.hid (fun i (hi : i < (coreR V l).length) => coreR_part hr hi)
  have hRl : (coreR V l).length ≤ 30 := Nat.le_trans (coreR_len _ _) h30
  rw [herr] at CC
  have HPOS := Lib.hid hpos
  have HPROV := Lib.hid hprov
  have HR := Lib.hid hr
  generalize coreR V l = R at CC HPROV hprov hemp HPART hRl
  have CC2 := Lib.hid CC
  clear CC hpos hprov herr hr hco hall b2 hC hP CM CV
  go_wp2_with fail
  refine CC2.out.mono ?_
  clear CC2
  rintro e w3 ⟨xa, ca, rfl, ho, b3⟩
  have HO := Lib.hid ho
  have L23 := Lib.hid b3
  have B3 := Lib.hid (Below.step B2.out b3 (Nat.le_refl _))
  clear ho b3
  go_wp2_with fail
  refine (RS.out _ L23.out).mono ?_
  rintro e w4 ⟨z, is', nn, er, xb, cb, rfl, hs, _, b4⟩
  obtain ⟨rfl, rfl⟩ := hs.told
  rw [HPOS.out, HR.out]
  have L24 := Lib.hid (Below.step L23.out b4 (Nat.le_refl _))
  have L34 := Lib.hid b4
  have B4 := Lib.hid (Below.step B3.out b4 (Nat.le_refl _))
  clear hs b4 RS
  go_wp2_with fail
  have CP := HP.out w4 L24.out R xa ca ((HO.out.ints.below L34.out).mono L34.out.size) (by omega)
  rw [HPROV.out] at CP
  refine CP.mono ?_
  clear CP
  rintro e w5 ⟨rfl, b5⟩
  have L25 := Lib.hid (Below.step L24.out b5 (Nat.le_refl _))
  have L35 := Lib.hid (Below.step L34.out b5 (Nat.le_refl _))
  have B5 := Lib.hid (Below.step B4.out b5 (Nat.le_refl _))
  clear b5
  go_wp2_with fail
  go_loopw [14] (fun iv wr => ∃ i : Nat, iv = .int .i64 i ∧ i ≤ R.length ∧ Hid (Below w5.heap.size w5 wr)) (fun iv _ => R.length - (intOf iv).toNat)
  case atStart => exact ⟨0, rfl, Nat.zero_le _, Lib.hid (Below.refl _ _)⟩
  case round =>
    obtain ⟨i, rfl, hi, hb⟩ := hrel
    by_cases hlt : i < R.length
    · obtain ⟨g, rfl, hg, hsrc, hlc, hcm⟩ := HO.out.src (by omega)
      have L3r := Lib.hid (Below.step L35.out hb.out (Nat.le_refl _))
      have L2r := Lib.hid (Below.step L25.out hb.out (Nat.le_refl _))
      have HPT := Lib.hid (HPART.out i hlt)
      have hi0 : (0 : Int) ≤ (i : Int) := by omega
      have hi1 : (0 : Int) ≤ (i : Int) + 1 := by omega
      have q1 : (i : Int) ≤ (ca : Int) := by omega
      have q2 : (i : Int) ≤ (R.length : Int) := by omega
      have q3 : (i : Int) + 1 ≤ (R.length : Int) := by omega
      have hlt' : (i : Int) < (R.length : Int) := by omega
      have hw1 : IntKind.i64.wrap ((i : Int) + 1) = (i : Int) + 1 := IntWalk.i64_in _ (by omega)
      have hc0 : ¬ ca = 0 := by omega
      have hci : ¬ ca = i := by omega
      obtain ⟨v1, W1, x1, c1, W2, HR1, HR2, HI2, HB2⟩ := two_ints (w := wr) (W := wr.drew) (g := g) (o1 := 0) (a2 := if ca = i + 1 then some ⟨g, 0, none⟩ else some ⟨g, i + 1, none⟩) (n1 := i) (n2 := R.length - (i + 1)) (n3 := R.length - 1) (c1 := ca) (c2 := ca - (i + 1)) (p := R.take i) (q := R.drop (i + 1)) 23 (Nat.lt_of_lt_of_le hg L3r.out.size) (Below.refl _ _).drew ((hsrc.take i).keep (L3r.out.block g hg))
        (by
          by_cases hcut : ca = i + 1
          · rw [if_pos hcut]
            exact ⟨0, rfl, fun j hj => by rw [List.length_drop] at hj; omega⟩
          · rw [if_neg hcut]
            exact ⟨i + 1, rfl, by have := (hsrc.drop (i + 1)).keep (L3r.out.block g hg); rwa [Nat.zero_add] at this⟩) (by rw [List.length_take]; omega) (by rw [List.length_drop]) (by omega) (by omega)
      have hln : (R.take i ++ R.drop (i + 1)).length = R.length - 1 := by rw [List.length_append, List.length_take, List.length_drop]; omega
      generalize R.take i ++ R.drop (i + 1) = less at HI2 HPT hln
      clear hsrc
      have HB2w := Lib.hid (L2r.out.trans (HB2.out.mono L2r.out.size))
      have HB5w := Lib.hid (hb.out.trans (HB2.out.mono hb.out.size))
      have HB3w := Lib.hid (L3r.out.trans (HB2.out.mono L3r.out.size))
      clear HB2 L2r L3r
      go_wp2_with fail
      have _hS : True := trivial
      go_region_held3 (fun _ => True) (trivial) (first | (refine step_append (by rfl) _ _ _ (by rfl) (by rfl) (by rfl) HR1.out ?_) | (refine step_append (by rfl) _ _ _ (by rfl) (by rfl) (by rfl) HR2.out ?_))
      generalize (if ca = i + 1 then (some ⟨g, 0, none⟩ : Option Addr) else some ⟨g, i + 1, none⟩) = ad
      clear HR1 HR2
      go_wp2_with fail
      have CP := HP.out W2 HB2w.out less x1 c1 HI2.out (by omega)
      rw [HPT.out, hln] at CP
      refine CP.mono ?_
      clear CP
      rintro e w7 ⟨rfl, b7⟩
      have HB5e := Lib.hid (Below.step HB5w.out b7 (Nat.le_refl _))
      clear b7
      go_wp2_with fail
      go_roundw
      case rel => exact ⟨i + 1, by go_num, by omega, HB5e⟩
      case measure => simp [intOf]; omega
    · have hlt' : ¬ (i : Int) < (R.length : Int) := by omega
      have HE := Lib.hid (Below.step B5.out hb.out (Nat.le_refl _))
      go_wp2_with fail
      go_ret
      exact ⟨rfl, HE.out⟩
theorem own : ownKnob Try.prog.godebug = none := by kernel_rfl

set_option maxRecDepth 100000 in
theorem lifted (hC : CoreC) (hP : ProvC) (os : Os) (started : os.Started) (H : Type) (enc : TypeId × Value → H) :
    ReturnsInHanded {} Try.checked os 6 .any (Rows.coreProvesSpec.pre6 enc Try.prog Try.f6 Rows.coreProvesRow.domain false) (Rows.coreProvesSpec.post enc Try.prog Try.f6 false true false false) := by
  refine returnsInHanded_of_change (C := Try.checked) own started (by kernel_rfl) Try.func6
    (ChangeSpec.witness6 (enc := enc) (C := Try.checked) false ⟨#[], #[.int .u8 0, .slice none 0 0], []⟩ 8 (by kernel_rfl) (by kernel_rfl) (by kernel_rfl) (by kernel_rfl)) ?_
  intro W base args ds gs before hval0 hW hcnd _
  have hval : ∀ (j : Nat) t v, Try.f6.params[j]? = some t → args[j]? = some v → Value.okWide Try.prog W .any base t v := hval0
  have hW' := hW
  obtain ⟨p, q, hA0, hV, rfl, hfz, hnd⟩ := hW
  have hA : DataW.TrodAll enc Try.prog W 0 (fun _ => true) true Try.f6.params.toList args.toList ds p := hA0
  rw [Try.params6] at hA hval
  obtain ⟨v0, vs0, d0, ds0, p0, q0, hargs, rfl, rfl, h0, hr0⟩ := trodAll_cons hA
  obtain ⟨v1, vs1, d1, ds1, p1, q1, rfl, rfl, rfl, h1, hr1⟩ := trodAll_cons hr0
  obtain ⟨rfl, rfl, rfl⟩ := trodAll_nil hr1
  obtain rfl : args = #[v0, v1] := by cases args; simp_all
  obtain ⟨rfl, rfl⟩ := trodVars_none hV
  obtain ⟨N, rfl, rfl, rfl, w0⟩ := open_int Try.underlying5 (hval 0 5 v0 rfl rfl) h0
  obtain ⟨ll, al, cl, rfl, hs1⟩ := h_arg_bytes (hval 1 31 v1 rfl rfl) h1
  have hN := h_u8_range w0
  have hlt := hW'.lt
  refine (walk hC hP N hN.1 hN.2 ll cl W.heap.size al W hs1 (Nat.le_refl _)).mono fun e W' ⟨he, hb⟩ => ?_
  subst he
  have t1 := Below.trod h_laidOut (by kernel_rfl) (of_decide_eq_true (by kernel_rfl)) h1 hb (fun x hx => hlt x (by simp [hx]))
  exact ⟨_, rfl, ⟨_, _, _, [], _, [], hW', trodAll_mk1 (shut_bool Try.underlying4 _), trodAll_mk2 (shut_int Try.underlying5 w0) t1, rfl, hb.frame _, fun h => by cases h⟩⟩

theorem over : Rows.coreProvesRow.holds Try.pinned (OpenSpec.ofChange Rows.coreProvesSpec) :=
  OpenClaim.holds_of_wide 6 Try.f6 rfl rfl rfl rfl rfl rfl rfl ⟨rfl, rfl, rfl, rfl, rfl⟩ rfl rfl rfl rfl rfl (by kernel_rfl) Try.func6 (by kernel_rfl)
    (of_decide_eq_true (by kernel_rfl)) (by unfold Func.isWrapper; first | (rw [if_pos (by decide +kernel)]; kernel_rfl) | (rw [if_neg (by decide +kernel)]; exact ⟨rfl, rfl⟩))
    (fun os started H enc _ => lifted coreC provC os started H enc)

/-- THE STATEMENT -/
theorem proved : Rows.CoreProvesSaid :=
  over
#print axioms proved
end Go.Proofs.Ytnfmcenedohdnaa.coreProves
