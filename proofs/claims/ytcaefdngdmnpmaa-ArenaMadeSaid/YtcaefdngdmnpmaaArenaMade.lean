/- For every list of lists of bytes and every list of bytes the law ArenaMade returns true: what the program tells of the arena and the level that they make is what the document's own answer tells, at all places. No condition. -/
import Derived.Test.YtcaefdngdmnpmaaAwake4
import Derived.Test.YtcaefdngdmnpmaaMarena
import Derived.Test.YtcaefdngdmnpmaaOpen4
import Derived.Carry
namespace Go.Proofs.Ytcaefdngdmnpmaa.arenaMade
open Go.ChangeShapes Go.WideShapes Go.ChangeAt Go.RowKit

theorem own : ownKnob Try.prog.godebug = none := by kernel_rfl

/-- What lies there: the arena, the level. -/
def AmAt (A : Nat) (len : Nat) (x : Option Addr) (c X : Nat) (k n : Int) (l : Nat) (y : Option Addr) (d : Nat) (W : World) : Prop :=
  W.heap[A]? = some (.cells #[.slice x len c] 24 (0, 0)) ∧ W.heap[X]? = some (.cells #[.int .i64 k, .int .i64 n, .slice y l d] 27 (0, 0))
theorem AmAt.below {A len c X : Nat} {x : Option Addr} {k n : Int} {l : Nat} {y : Option Addr} {d : Nat} {W W' : World} (h : AmAt A len x c X k n l y d W) (hb : Below W.heap.size W W') : AmAt A len x c X k n l y d W' := ⟨(hb.block _ (lt_of_block h.1)).trans h.1, (hb.block _ (lt_of_block h.2)).trans h.2⟩

set_option maxRecDepth 100000 in
set_option maxHeartbeats 4000000 in
theorem walk (l1 c1 l2 c2 : Nat) (a1 a2 : Option Addr) (w : World) (h1 : RowsIn w (· < w.heap.size) l1 a1 c1) (h2 : U8In w (· < w.heap.size) l2 a2 c2) :
    Calls Try.prog 4 #[.slice a1 l1 c1, .slice a2 l2 c2] w fun e w' => e = .returned (.bool true) ∧ Below w.heap.size w w' := by
  have HM : Hid (∀ W, Below w.heap.size w W → Calls Try.prog 12 #[.slice a2 l2 c2, .int .i64 5, .int .i64 10] W (MadeOk 5 10 W)) := Lib.hid (fun W h => made_any 5 10 (by omega) (by omega) (by omega) (by omega) l2 c2 w.heap.size a2 W (h2.keep' (fun b hb => h.block b hb)) h.size)
  have HA := Lib.hid (mArena_any l1 c1 w.heap.size a1 w h1 (Nat.le_refl _))
  clear h1 h2
  go_enter Try.func4, Try.ntmps4
  go_wp2_with fail
  refine HA.out.mono ?_
  rintro e w1 ⟨ns, x, c, rfl, hl, o1, b1⟩
  have HB1 := Lib.hid b1
  have O1 := Lib.hid o1
  clear b1 o1
  go_wp2_with fail
  refine (HM.out _ (by exact HB1.out.alloc HB1.out.size _)).mono ?_
  rintro e w2 ⟨k, n, F, y, d, rfl, _, s2, b2⟩
  have B12 : Hid (Below w1.heap.size w1 w2) := Lib.hid (((Below.refl _ _).alloc (Nat.le_refl _) _).trans (b2.mono (by simp)))
  have va := (b2.block w1.heap.size (by simp)).trans (heap_new w1 _)
  have hold : Below w2.heap.size w2 (w2.alloc (.cells #[.int .i64 k, .int .i64 n, .slice y F.len d] 27)) := (Below.refl _ _).alloc (Nat.le_refl _) _
  have HAT : Hid (AmAt w1.heap.size ns.length x c w2.heap.size k n F.len y d (w2.alloc (.cells #[.int .i64 k, .int .i64 n, .slice y F.len d] 27))) := Lib.hid ⟨(hold.block _ (lt_of_block va)).trans va, heap_new _ _⟩
  have HB2 : Hid (Below w.heap.size w (w2.alloc (.cells #[.int .i64 k, .int .i64 n, .slice y F.len d] 27))) := Lib.hid (Below.step (Below.step HB1.out B12.out (Nat.le_refl _)) hold (Nat.le_refl _))
  have HT : Hid (∀ (i : Int) (W : World), Below (w2.alloc (.cells #[.int .i64 k, .int .i64 n, .slice y F.len d] 27)).heap.size (w2.alloc (.cells #[.int .i64 k, .int .i64 n, .slice y F.len d] 27)) W → Calls Try.prog 10 #[.agg #[.slice x ns.length c], .agg #[.int .i64 k, .int .i64 n, .slice y F.len d], .int .i64 i] W fun e w' => e = .returned (.bool true) ∧ Below W.heap.size W w') := Lib.hid (fun i W h => by
    have h2 : Below w2.heap.size w2 W := Below.step hold h (Nat.le_refl _)
    have h1 : Below w1.heap.size w1 W := Below.step B12.out h2 (Nat.le_refl _)
    exact told4_any ns x c k n F y d i w2.heap.size W ((O1.out.later W h1).mono B12.out.size) (s2.later W h2) h2.size (by omega))
  clear s2 b2 va hold
  go_wp2_with fail
  generalize w2.alloc (.cells #[.int .i64 k, .int .i64 n, .slice y F.len d] 27) = W0 at HAT HB2 HT ⊢
  go_loopw [7] (fun i wr => ∃ j : Nat, i = .int .i64 ((j : Int) - 1) ∧ j ≤ 50 ∧ Hid (Below W0.heap.size W0 wr)) (fun i _ => (40 - intOf i).toNat)
  case atStart => exact ⟨0, rfl, by omega, Lib.hid (Below.refl _ _)⟩
  case round =>
    obtain ⟨j, rfl, hj, hR⟩ := hrel
    have hAT := HAT.out.below hR.out
    have q0 := cell_at hAT.1 0
    have q1 := cell_at hAT.2 0
    have q2 := cell_at hAT.2 1
    have q3 := cell_at hAT.2 2
    clear hAT
    obtain ⟨I, hI⟩ : ∃ I : Int, I = (j : Int) - 1 := ⟨_, rfl⟩
    have hI0 : -1 ≤ I := by omega
    have hI1 : I ≤ 49 := by omega
    rw [← hI]
    have HI := Lib.hid hI
    clear hI
    by_cases k1 : I ≤ (ns.length : Int)
    · have d1 : decide (I ≤ (ns.length : Int)) = true := by simpa using k1
      by_cases k2 : I < 40
      · have d2 : decide (I < 40) = true := by simpa using k2
        go_wp2_with fail
        refine (HT.out I wr hR.out).mono ?_
        rintro e w3 ⟨rfl, b3⟩
        have HB3 := Lib.hid (Below.step hR.out b3 (Nat.le_refl _))
        clear b3 q0 q1 q2 q3
        go_wp2_with fail
        go_roundw
        case rel => exact ⟨j + 1, by rw [HI.out]; go_num, by have := HI.out; omega, HB3⟩
        case measure => simp [intOf]; omega
      · have d2 : decide (I < 40) = false := by simpa using k2
        go_wp2_with fail
        refine (awake4_any _).mono ?_
        rintro e w3 ⟨rfl, b3⟩
        have HB3 := Lib.hid (Below.step HB2.out (Below.step hR.out b3 (Nat.le_refl _)) (Nat.le_refl _))
        clear b3 q0 q1 q2 q3
        go_wp2_with fail
        go_ret
        exact ⟨rfl, HB3.out⟩
    · have d1 : decide (I ≤ (ns.length : Int)) = false := by simpa using k1
      go_wp2_with fail
      refine (awake4_any _).mono ?_
      rintro e w3 ⟨rfl, b3⟩
      have HB3 := Lib.hid (Below.step HB2.out (Below.step hR.out b3 (Nat.le_refl _)) (Nat.le_refl _))
      clear b3 q0 q1 q2 q3
      go_wp2_with fail
      go_ret
      exact ⟨rfl, HB3.out⟩

set_option maxRecDepth 100000 in
theorem lifted (os : Os) (started : os.Started) (H : Type) (enc : TypeId × Value → H) :
    ReturnsInHanded {} Try.checked os 4 .any (Rows.arenaMadeSpec.pre6 enc Try.prog Try.f4 Rows.arenaMadeRow.domain false) (Rows.arenaMadeSpec.post enc Try.prog Try.f4 false true false false) := by
  refine returnsInHanded_of_change (C := Try.checked) own started (by kernel_rfl) Try.func4
    (ChangeSpec.witness6 (enc := enc) (C := Try.checked) false ⟨#[], #[.slice none 0 0, .slice none 0 0], []⟩ 8 (by kernel_rfl) (by kernel_rfl) (by kernel_rfl) (by kernel_rfl)) ?_
  intro W base args ds gs before hval0 hW hcnd _
  have hval : ∀ (j : Nat) t v, Try.f4.params[j]? = some t → args[j]? = some v → Value.okWide Try.prog W .any base t v := hval0
  have hW' := hW
  obtain ⟨p, q, hA0, hV, rfl, hfz, hnd⟩ := hW
  have hA : DataW.TrodAll enc Try.prog W 0 (fun _ => true) true Try.f4.params.toList args.toList ds p := hA0
  rw [Try.params4] at hA hval
  obtain ⟨v0, v1, d0, d1, p0, p1, rfl, rfl, rfl, h0, h1⟩ := trodAll_two hA
  obtain ⟨rfl, rfl⟩ := trodVars_none hV
  obtain ⟨n0, a0, c0, rfl, hs0⟩ := arg_rows (hval 0 31 v0 rfl rfl) h0
  obtain ⟨n1, a1, c1, rfl, hs1⟩ := arg_bytes (hval 1 32 v1 rfl rfl) h1
  have hlt := hW'.lt
  refine (walk n0 c0 n1 c1 a0 a1 W hs0 hs1).mono fun e W' ⟨he, hb⟩ => ?_
  subst he
  have t0 := Below.trod laidOut (by kernel_rfl) (of_decide_eq_true (by kernel_rfl)) h0 hb (fun x hx => hlt x (by simp [hx]))
  have t1 := Below.trod laidOut (by kernel_rfl) (of_decide_eq_true (by kernel_rfl)) h1 hb (fun x hx => hlt x (by simp [hx]))
  exact ⟨_, rfl, ⟨_, _, _, [], _, [], hW', trodAll_mk1 (shut_bool Try.underlying4 _), trodAll_mk2 t0 t1, rfl, hb.frame _, fun h => by cases h⟩⟩

theorem over : Rows.arenaMadeRow.holds Try.pinned (OpenSpec.ofChange Rows.arenaMadeSpec) :=
  OpenClaim.holds_of_wide 4 Try.f4 rfl rfl rfl rfl rfl rfl rfl ⟨rfl, rfl, rfl, rfl, rfl⟩ rfl rfl rfl rfl rfl (by kernel_rfl) Try.func4 (by kernel_rfl)
    (of_decide_eq_true (by kernel_rfl)) (by unfold Func.isWrapper; first | (rw [if_pos (by decide +kernel)]; kernel_rfl) | (rw [if_neg (by decide +kernel)]; exact ⟨rfl, rfl⟩))
    (fun os started H enc _ => lifted os started H enc)

/-- THE STATEMENT -/
theorem proved : Rows.ArenaMadeSaid :=
  over
#print axioms proved
end Go.Proofs.Ytcaefdngdmnpmaa.arenaMade
