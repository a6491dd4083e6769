/- For all numbers the law SolveMade returns true: of clauses by numbers the program tells the least model that the document's own rounds tell. No condition. -/
import Derived.Test.YtkjmhjeebamehaaJawake
import Derived.Test.YtkjmhjeebamehaaJsame
import Derived.Test.YtkjmhjeebamehaaHmade
import Derived.Test.YtkjmhjeebamehaaHopen
import Derived.Carry
namespace Go.Proofs.Ytkjmhjeebamehaa.solveMade
open Go.ChangeShapes Go.WideShapes Go.ChangeAt Go.RowKit

set_option maxRecDepth 100000 in
set_option maxHeartbeats 8000000 in
theorem walk (n : Int) (h0 : 0 ≤ n) (h1 : n < 256) (ll cl lv cv B : Nat) (al av : Option Addr) (w : World) (hl : ByIn w (· < B) ll al cl) (hv : ByIn w (· < B) lv av cv) (hB : B ≤ w.heap.size) :
    Calls Try.prog 3 #[.int .u8 n, .slice al ll cl, .slice av lv cv] w fun e w' => e = .returned (.bool true) ∧ Below w.heap.size w w' := by
  have CM := Lib.hid (fun W (h : Below w.heap.size w W) => made8_any n h0 h1 ll cl B al W (hl.below (h.mono hB)) (Nat.le_trans hB h.size))
  have CD := Lib.hid (fun W (h : Below w.heap.size w W) => model8_any n h0 h1 lv cv B av W (hv.below (h.mono hB)) (Nat.le_trans hB h.size))
  have CV := Lib.hid (fun W => vars8_any n h0 h1 W)
  have HV := Lib.hid (varsN_bd n)
  generalize varsN n = V at CM CD CV HV
  clear hl hv
  go_enter Try.func3, Try.ntmps3
  go_wp2_with fail
  refine (awake9_any _).mono ?_
  rintro e w1 ⟨rfl, b1⟩
  have B1 := Lib.hid b1
  clear b1
  go_wp2_with fail
  refine (CV.out _).mono ?_
  rintro e w' ⟨rfl, rfl⟩
  go_wp2_with fail
  refine (CM.out _ B1.out).mono ?_
  rintro e w2 ⟨l, x, c, rfl, hco, _, _, b2⟩
  have HC := Lib.hid (hco.cls.weak (Q := (· < w2.heap.size)) (fun b hb => hb.2))
  have B2 := Lib.hid (Below.step B1.out b2 (Nat.le_refl _))
  clear hco b2
  go_wp2_with fail
  refine (CD.out _ B2.out).mono ?_
  rintro e w3 ⟨m, hml, hlow, rfl, hnb, b3⟩
  have HD := Lib.hid (hnb.ints (cap := V) (by omega) (by have := HV.out; omega))
  have D3 := Lib.hid b3
  have B3 := Lib.hid (Below.step B2.out b3 (Nat.le_refl _))
  have CS := Lib.hid (same9_any V (by have := HV.out; omega) m l x (some ⟨w2.heap.size, 0, none⟩) c V w3.heap.size w3 ((HC.out.below D3.out).mono D3.out.size) HD.out (Nat.le_refl _))
  rw [hml] at CS
  clear hnb b3 hlow hml
  go_wp2_with fail
  refine CS.out.mono ?_
  rintro e w4 ⟨rfl, b4⟩
  have B4 := Lib.hid (Below.step B3.out b4 (Nat.le_refl _))
  clear b4
  go_wp2_with fail
  go_ret
  exact ⟨rfl, B4.out⟩

theorem own : ownKnob Try.prog.godebug = none := by kernel_rfl

set_option maxRecDepth 100000 in
theorem lifted (os : Os) (started : os.Started) (H : Type) (enc : TypeId × Value → H) :
    ReturnsInHanded {} Try.checked os 3 .any (Rows.solveMadeSpec.pre6 enc Try.prog Try.f3 Rows.solveMadeRow.domain false) (Rows.solveMadeSpec.post enc Try.prog Try.f3 false true false false) := by
  refine returnsInHanded_of_change (C := Try.checked) own started (by kernel_rfl) Try.func3
    (ChangeSpec.witness6 (enc := enc) (C := Try.checked) false ⟨#[], #[.int .u8 0, .slice none 0 0, .slice none 0 0], []⟩ 8 (by kernel_rfl) (by kernel_rfl) (by kernel_rfl) (by kernel_rfl)) ?_
  intro W base args ds gs before hval0 hW hcnd _
  have hval : ∀ (j : Nat) t v, Try.f3.params[j]? = some t → args[j]? = some v → Value.okWide Try.prog W .any base t v := hval0
  have hW' := hW
  obtain ⟨p, q, hA0, hV, rfl, hfz, hnd⟩ := hW
  have hA : DataW.TrodAll enc Try.prog W 0 (fun _ => true) true Try.f3.params.toList args.toList ds p := hA0
  rw [Try.params3] at hA hval
  obtain ⟨v0, vs0, d0, ds0, p0, q0, hargs, rfl, rfl, h0, hr0⟩ := trodAll_cons hA
  obtain ⟨v1, vs1, d1, ds1, p1, q1, rfl, rfl, rfl, h1, hr1⟩ := trodAll_cons hr0
  obtain ⟨v2, vs2, d2, ds2, p2, q2, rfl, rfl, rfl, h2, hr2⟩ := trodAll_cons hr1
  obtain ⟨rfl, rfl, rfl⟩ := trodAll_nil hr2
  obtain rfl : args = #[v0, v1, v2] := by cases args; simp_all
  obtain ⟨rfl, rfl⟩ := trodVars_none hV
  obtain ⟨N, rfl, rfl, rfl, w0⟩ := open_int Try.underlying5 (hval 0 5 v0 rfl rfl) h0
  obtain ⟨ll, al, cl, rfl, hs1⟩ := h_arg_bytes (hval 1 22 v1 rfl rfl) h1
  obtain ⟨lv, av, cv, rfl, hs2⟩ := h_arg_bytes (hval 2 22 v2 rfl rfl) h2
  have hN := h_u8_range w0
  have hlt := hW'.lt
  refine (walk N hN.1 hN.2 ll cl lv cv W.heap.size al av W hs1 hs2 (Nat.le_refl _)).mono fun e W' ⟨he, hb⟩ => ?_
  subst he
  have t1 := Below.trod h_laidOut (by kernel_rfl) (of_decide_eq_true (by kernel_rfl)) h1 hb (fun x hx => hlt x (by simp [hx]))
  have t2 := Below.trod h_laidOut (by kernel_rfl) (of_decide_eq_true (by kernel_rfl)) h2 hb (fun x hx => hlt x (by simp [hx]))
  exact ⟨_, rfl, ⟨_, _, _, [], _, [], hW', trodAll_mk1 (shut_bool Try.underlying4 _), ⟨_, _, shut_int Try.underlying5 w0, trodAll_mk2 t1 t2, rfl⟩, rfl, hb.frame _, fun h => by cases h⟩⟩

theorem over : Rows.solveMadeRow.holds Try.pinned (OpenSpec.ofChange Rows.solveMadeSpec) :=
  OpenClaim.holds_of_wide 3 Try.f3 rfl rfl rfl rfl rfl rfl rfl ⟨rfl, rfl, rfl, rfl, rfl⟩ rfl rfl rfl rfl rfl (by kernel_rfl) Try.func3 (by kernel_rfl)
    (of_decide_eq_true (by kernel_rfl)) (by unfold Func.isWrapper; first | (rw [if_pos (by decide +kernel)]; kernel_rfl) | (rw [if_neg (by decide +kernel)]; exact ⟨rfl, rfl⟩))
    (fun os started H enc _ => lifted os started H enc)

/-- THE STATEMENT -/
theorem proved : Rows.SolveMadeSaid :=
  over
#print axioms proved
end Go.Proofs.Ytkjmhjeebamehaa.solveMade
