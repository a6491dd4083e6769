/- For every list of bytes and every two lists of lists of bytes the law LsubMade returns true: what the program tells of the level that they make, with the levels that they make in the place of its parameters and unknowns, is what the document's own answer tells. No condition. -/
import Derived.Test.YtmbopdlmkbbbiaaAwake5
import Derived.Test.YtmbopdlmkbbbiaaSame5
import Derived.Test.YtmbopdlmkbbbiaaLevels5
import Derived.Test.YtmbopdlmkbbbiaaOpenRows
import Derived.Carry
namespace Go.Proofs.Ytmbopdlmkbbbiaa.lsubMade
open Go.ChangeShapes Go.WideShapes Go.ChangeAt Go.RowKit

theorem own : ownKnob Try.prog.godebug = none := by kernel_rfl

set_option maxRecDepth 100000 in
set_option maxHeartbeats 4000000 in
theorem walk (l1 c1 l2 c2 l3 c3 : Nat) (a1 a2 a3 : Option Addr) (w : World) (h1 : U8In w (· < w.heap.size) l1 a1 c1) (h2 : RowsIn w (· < w.heap.size) l2 a2 c2) (h3 : RowsIn w (· < w.heap.size) l3 a3 c3) :
    Calls Try.prog 5 #[.slice a1 l1 c1, .slice a2 l2 c2, .slice a3 l3 c3] w fun e w' => e = .returned (.bool true) ∧ Below w.heap.size w w' := by
  have HM : Hid (∀ W, Below w.heap.size w W → Calls Try.prog 9 #[.slice a1 l1 c1, .int .i64 5, .int .i64 10] W (MadeOk 5 10 W)) := Lib.hid (fun W h => made_any 5 10 (by omega) (by omega) (by omega) (by omega) l1 c1 w.heap.size a1 W (h1.keep' (fun b hb => h.block b hb)) h.size)
  have HP : Hid (∀ W, Below w.heap.size w W → 1 ≤ W.heap.size → Calls Try.prog 18 #[.slice a2 l2 c2, .int .i64 6] W (LsPost 6 W)) := Lib.hid (fun W h h0 => levels5_any 6 l2 c2 w.heap.size (by omega) a2 W (h2.below h) h.size h0)
  have HQ : Hid (∀ W, Below w.heap.size w W → 1 ≤ W.heap.size → Calls Try.prog 18 #[.slice a3 l3 c3, .int .i64 11] W (LsPost 11 W)) := Lib.hid (fun W h h0 => levels5_any 11 l3 c3 w.heap.size (by omega) a3 W (h3.below h) h.size h0)
  clear h1 h2 h3
  go_enter Try.func5, Try.ntmps5
  go_wp2_with fail
  refine (awake5_any _).mono ?_
  rintro e w1 ⟨rfl, b1, z1⟩
  go_wp2_with fail
  refine (HM.out _ b1).mono ?_
  rintro e w2 ⟨k, n, F, x, c, rfl, hok, s2, b2⟩
  have HB2 := Lib.hid (Below.step b1 b2 (Nat.le_refl _))
  have HZ2 := Lib.hid (Nat.le_trans z1 b2.size)
  have S2 : Hid (SlIn w2 (· < w2.heap.size) F x c) := Lib.hid (s2.weak (fun b h => h.2))
  have HR := Lib.hid (lv_right (by omega) hok)
  clear hok s2 b2 b1 z1
  go_wp2_with fail
  refine (HP.out _ HB2.out HZ2.out).mono ?_
  rintro e w3 ⟨G, y, d, rfl, _, _, s3, b3⟩
  have HB3 := Lib.hid (Below.step HB2.out b3 (Nat.le_refl _))
  have HZ3 := Lib.hid (Nat.le_trans HZ2.out b3.size)
  have S3 := Lib.hid s3
  have B23 := Lib.hid b3
  clear s3 b3
  go_wp2_with fail
  refine (HQ.out _ HB3.out HZ3.out).mono ?_
  rintro e w4 ⟨H, y2, d2, rfl, _, _, s4, b4⟩
  have HB4 := Lib.hid (Below.step HB3.out b4 (Nat.le_refl _))
  have HC := Lib.hid (same5_any G H k n F x y y2 c d d2 w4.heap.size w4 HR.out ((S2.out.below (Below.step B23.out b4 (Nat.le_refl _))).mono (Nat.le_trans B23.out.size b4.size)) ((S3.out.below b4).mono b4.size) s4 (Nat.le_refl _))
  clear s4 b4
  go_wp2_with fail
  refine HC.out.mono ?_
  rintro e w5 ⟨rfl, b5⟩
  have HB5 := Lib.hid (Below.step HB4.out b5 (Nat.le_refl _))
  clear b5
  go_wp2_with fail
  go_ret
  exact ⟨rfl, HB5.out⟩

set_option maxRecDepth 100000 in
theorem lifted (os : Os) (started : os.Started) (H : Type) (enc : TypeId × Value → H) :
    ReturnsInHanded {} Try.checked os 5 .any (Rows.lsubMadeSpec.pre6 enc Try.prog Try.f5 Rows.lsubMadeRow.domain false) (Rows.lsubMadeSpec.post enc Try.prog Try.f5 false true false false) := by
  refine returnsInHanded_of_change (C := Try.checked) own started (by kernel_rfl) Try.func5
    (ChangeSpec.witness6 (enc := enc) (C := Try.checked) false ⟨#[], #[.slice none 0 0, .slice none 0 0, .slice none 0 0], []⟩ 8 (by kernel_rfl) (by kernel_rfl) (by kernel_rfl) (by kernel_rfl)) ?_
  intro W base args ds gs before hval0 hW hcnd _
  have hval : ∀ (j : Nat) t v, Try.f5.params[j]? = some t → args[j]? = some v → Value.okWide Try.prog W .any base t v := hval0
  have hW' := hW
  obtain ⟨p, q, hA0, hV, rfl, hfz, hnd⟩ := hW
  have hA : DataW.TrodAll enc Try.prog W 0 (fun _ => true) true Try.f5.params.toList args.toList ds p := hA0
  rw [Try.params5] at hA hval
  obtain ⟨v0, v1, v2, d0, d1, d2, p0, p1, p2, rfl, rfl, rfl, h0, h1, h2⟩ := trodAll_three hA
  obtain ⟨rfl, rfl⟩ := trodVars_none hV
  obtain ⟨n0, a0, c0, rfl, hs0⟩ := arg_bytes (hval 0 23 v0 rfl rfl) h0
  obtain ⟨n1, a1, c1, rfl, hs1⟩ := arg_rows (hval 1 22 v1 rfl rfl) h1
  obtain ⟨n2, a2, c2, rfl, hs2⟩ := arg_rows (hval 2 22 v2 rfl rfl) h2
  have hlt := hW'.lt
  refine (walk n0 c0 n1 c1 n2 c2 a0 a1 a2 W hs0 hs1 hs2).mono fun e W' ⟨he, hb⟩ => ?_
  subst he
  have t0 := Below.trod laidOut (by kernel_rfl) (of_decide_eq_true (by kernel_rfl)) h0 hb (fun x hx => hlt x (by simp [hx]))
  have t1 := Below.trod laidOut (by kernel_rfl) (of_decide_eq_true (by kernel_rfl)) h1 hb (fun x hx => hlt x (by simp [hx]))
  have t2 := Below.trod laidOut (by kernel_rfl) (of_decide_eq_true (by kernel_rfl)) h2 hb (fun x hx => hlt x (by simp [hx]))
  exact ⟨_, rfl, ⟨_, _, _, [], _, [], hW', trodAll_mk1 (shut_bool Try.underlying4 _), trodAll_mk3 t0 t1 t2, rfl, hb.frame _, fun h => by cases h⟩⟩

theorem over : Rows.lsubMadeRow.holds Try.pinned (OpenSpec.ofChange Rows.lsubMadeSpec) :=
  OpenClaim.holds_of_wide 5 Try.f5 rfl rfl rfl rfl rfl rfl rfl ⟨rfl, rfl, rfl, rfl, rfl⟩ rfl rfl rfl rfl rfl (by kernel_rfl) Try.func5 (by kernel_rfl)
    (of_decide_eq_true (by kernel_rfl)) (by unfold Func.isWrapper; first | (rw [if_pos (by decide +kernel)]; kernel_rfl) | (rw [if_neg (by decide +kernel)]; exact ⟨rfl, rfl⟩))
    (fun os started H enc _ => lifted os started H enc)

/-- THE STATEMENT -/
theorem proved : Rows.LsubMadeSaid :=
  over
#print axioms proved
end Go.Proofs.Ytmbopdlmkbbbiaa.lsubMade
