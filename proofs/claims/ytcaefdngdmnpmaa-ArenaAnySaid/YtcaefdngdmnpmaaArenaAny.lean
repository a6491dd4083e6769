/- For every arena, level and number the law ArenaAny returns true: what the program tells of them is what the document's own answer tells. No condition. -/
import Derived.Test.YtcaefdngdmnpmaaAwake4
import Derived.Test.YtcaefdngdmnpmaaNodes
import Derived.Test.YtcaefdngdmnpmaaOpen4
import Derived.Carry
namespace Go.Proofs.Ytcaefdngdmnpmaa.arenaAny
open Go.ChangeShapes Go.WideShapes Go.ChangeAt Go.RowKit

theorem own : ownKnob Try.prog.godebug = none := by kernel_rfl

set_option maxRecDepth 100000 in
set_option maxHeartbeats 4000000 in
theorem walk (ns : List Nd) (a : Option Addr) (cap : Nat) (k n : Int) (F : Fo) (xa : Option Addr) (ca : Nat) (i : Int) (w : World) (hin : NsIn w (· < w.heap.size) ns a cap) (hsl : SlIn w (· < w.heap.size) F xa ca) :
    Calls Try.prog 3 #[.agg #[.slice a ns.length cap], .agg #[.int .i64 k, .int .i64 n, .slice xa F.len ca], .int .i64 i] w fun e w' => e = .returned (.bool true) ∧ Below w.heap.size w w' := by
  have hbx : Below w.heap.size w ((w.alloc (.cells #[.slice a ns.length cap] 24)).alloc (.cells #[.int .i64 k, .int .i64 n, .slice xa F.len ca] 27)) := ((Below.refl _ _).alloc (Nat.le_refl _) _).alloc (by simp) _
  have u0 : ((w.alloc (.cells #[.slice a ns.length cap] 24)).alloc (.cells #[.int .i64 k, .int .i64 n, .slice xa F.len ca] 27)).heap[w.heap.size]? = some (.cells #[.slice a ns.length cap] 24 (0, 0)) := (heap_old _ _ (by simp)).trans (heap_new _ _)
  have u1 : ((w.alloc (.cells #[.slice a ns.length cap] 24)).alloc (.cells #[.int .i64 k, .int .i64 n, .slice xa F.len ca] 27)).heap[w.heap.size + 1]? = some (.cells #[.int .i64 k, .int .i64 n, .slice xa F.len ca] 27 (0, 0)) := heap_second _ _ _
  have HN := Lib.hid (fun (W : World) (h : Below w.heap.size w W) => nodes_any (F.size + 1) F (Nat.lt_succ_self _) k n 301 xa ca w.heap.size W (hsl.below h) h.size (by omega) (by omega))
  have hnn : 1 ≤ nodesF F 301 1 ∧ nodesF F 301 1 ≤ 301 := by rw [nodesF_eq F 301 1 (by omega) (by omega)]; omega
  generalize nodesF F 301 1 = M at HN hnn
  obtain ⟨hn1, hn2⟩ := hnn
  have HT : Hid (ns.length ≤ 100 → ∀ (W : World), Below w.heap.size w W → Calls Try.prog 10 #[.agg #[.slice a ns.length cap], .agg #[.int .i64 k, .int .i64 n, .slice xa F.len ca], .int .i64 i] W fun e w' => e = .returned (.bool true) ∧ Below W.heap.size W w') := Lib.hid (fun hl W h => told4_any ns a cap k n F xa ca i w.heap.size W (hin.below h) (hsl.below h) h.size (by omega))
  have HU0 := Lib.hid u0
  have HU1 := Lib.hid u1
  have HBX := Lib.hid hbx
  clear hin hsl u0 u1 hbx
  by_cases h1 : ns.length ≤ 100
  · have h1' : ¬ (100 : Int) < (ns.length : Int) := by omega
    have d1 : decide ((100 : Int) < (ns.length : Int)) = false := by simpa using h1'
    have h1n : ¬ 100 < ns.length := by omega
    have HT2 := Lib.hid (HT.out h1)
    by_cases h2 : 300 < M
    · have d2 : decide (300 < M) = true := by simpa using h2
      go_enter Try.func3, Try.ntmps3
      go_wp2_with fail
      refine (awake4_any _).mono ?_
      rintro e w1 ⟨rfl, b1⟩
      have HB1 := Lib.hid (Below.step HBX.out b1 (Nat.le_refl _))
      have v0 := (b1.block _ (lt_of_block HU0.out)).trans HU0.out
      have v1 := (b1.block _ (lt_of_block HU1.out)).trans HU1.out
      have c0 := cell_at v0 0
      have c1 := cell_at v1 0
      have c2 := cell_at v1 1
      have c3 := cell_at v1 2
      clear b1 v0 v1
      go_wp2_with fail
      refine (HN.out _ HB1.out).mono ?_
      rintro e w2 ⟨rfl, b2⟩
      have HB2 := Lib.hid (Below.step HB1.out b2 (Nat.le_refl _))
      clear b2 c0 c1 c2 c3
      go_wp2_with fail
      go_ret
      exact ⟨rfl, HB2.out⟩
    · have d2 : decide (300 < M) = false := by simpa using h2
      go_enter Try.func3, Try.ntmps3
      go_wp2_with fail
      refine (awake4_any _).mono ?_
      rintro e w1 ⟨rfl, b1⟩
      have HB1 := Lib.hid (Below.step HBX.out b1 (Nat.le_refl _))
      have v0 := (b1.block _ (lt_of_block HU0.out)).trans HU0.out
      have v1 := (b1.block _ (lt_of_block HU1.out)).trans HU1.out
      have HV0 := Lib.hid v0
      have HV1 := Lib.hid v1
      have c0 := cell_at v0 0
      have c1 := cell_at v1 0
      have c2 := cell_at v1 1
      have c3 := cell_at v1 2
      clear b1 v0 v1
      go_wp2_with fail
      refine (HN.out _ HB1.out).mono ?_
      rintro e w2 ⟨rfl, b2⟩
      have HB2 := Lib.hid (Below.step HB1.out b2 (Nat.le_refl _))
      have v0 := (b2.block _ (lt_of_block HV0.out)).trans HV0.out
      have v1 := (b2.block _ (lt_of_block HV1.out)).trans HV1.out
      clear b2 c0 c1 c2 c3
      have c0 := cell_at v0 0
      have c1 := cell_at v1 0
      have c2 := cell_at v1 1
      have c3 := cell_at v1 2
      clear v0 v1
      go_wp2_with fail
      refine (HT2.out _ HB2.out).mono ?_
      rintro e w3 ⟨rfl, b3⟩
      have HB3 := Lib.hid (Below.step HB2.out b3 (Nat.le_refl _))
      clear b3 c0 c1 c2 c3
      go_wp2_with fail
      go_ret
      exact ⟨rfl, HB3.out⟩
  · have h1' : (100 : Int) < (ns.length : Int) := by omega
    have d1 : decide ((100 : Int) < (ns.length : Int)) = true := by simpa using h1'
    have h1n : 100 < ns.length := by omega
    go_enter Try.func3, Try.ntmps3
    go_wp2_with fail
    refine (awake4_any _).mono ?_
    rintro e w1 ⟨rfl, b1⟩
    have HB1 := Lib.hid (Below.step HBX.out b1 (Nat.le_refl _))
    have v0 := (b1.block _ (lt_of_block HU0.out)).trans HU0.out
    have c0 := cell_at v0 0
    clear b1 v0
    go_wp2_with fail
    go_ret
    exact ⟨rfl, HB1.out⟩

set_option maxRecDepth 100000 in
theorem lifted (os : Os) (started : os.Started) (H : Type) (enc : TypeId × Value → H) :
    ReturnsInHanded {} Try.checked os 3 .any (Rows.arenaAnySpec.pre6 enc Try.prog Try.f3 Rows.arenaAnyRow.domain false) (Rows.arenaAnySpec.post enc Try.prog Try.f3 false true false false) := by
  refine returnsInHanded_of_change (C := Try.checked) own started (by kernel_rfl) Try.func3
    (ChangeSpec.witness6 (enc := enc) (C := Try.checked) false ⟨#[], #[.agg #[.slice none 0 0], .agg #[.int .i64 0, .int .i64 0, .slice none 0 0], .int .i64 0], []⟩ 8 (by kernel_rfl) (by kernel_rfl) (by kernel_rfl) (by kernel_rfl)) ?_
  intro W base args ds gs before hval0 hW hcnd _
  have hval : ∀ (j : Nat) t v, Try.f3.params[j]? = some t → args[j]? = some v → Value.okWide Try.prog W .any base t v := hval0
  have hW' := hW
  obtain ⟨p, q, hA0, hV, rfl, hfz, hnd⟩ := hW
  have hA : DataW.TrodAll enc Try.prog W 0 (fun _ => true) true Try.f3.params.toList args.toList ds p := hA0
  rw [Try.params3] at hA hval
  obtain ⟨v0, vs0, d0, ds0, p0, q0, hargs, rfl, rfl, h0, hr0⟩ := trodAll_cons hA
  obtain ⟨v1, vs1, d1, ds1, p1, q1, rfl, rfl, rfl, h1, hr1⟩ := trodAll_cons hr0
  obtain ⟨v2, vs2, d2, ds2, p2, q2, rfl, rfl, rfl, h2, hr2⟩ := trodAll_cons hr1
  obtain ⟨rfl, rfl, rfl⟩ := trodAll_nil hr2
  obtain rfl : args = #[v0, v1, v2] := by cases args; simp_all
  obtain ⟨rfl, rfl⟩ := trodVars_none hV
  obtain ⟨ns, a, cap, rfl, hs0⟩ := arg_arena (hval 0 24 v0 rfl rfl) h0
  obtain ⟨k, n, F, xa, ca, rfl, hs1⟩ := arg_level (hval 1 27 v1 rfl rfl) h1
  obtain ⟨N, rfl, rfl, rfl, w2⟩ := open_int Try.underlying3 (hval 2 3 v2 rfl rfl) h2
  have hlt := hW'.lt
  refine (walk ns a cap k n F xa ca N W hs0 hs1).mono fun e W' ⟨he, hb⟩ => ?_
  subst he
  have t0 := Below.trod laidOut (by kernel_rfl) (of_decide_eq_true (by kernel_rfl)) h0 hb (fun x hx => hlt x (by simp [hx]))
  have t1 := Below.trod laidOut (by kernel_rfl) (of_decide_eq_true (by kernel_rfl)) h1 hb (fun x hx => hlt x (by simp [hx]))
  exact ⟨_, rfl, ⟨_, _, _, [], _, [], hW', trodAll_mk1 (shut_bool Try.underlying4 _), trodAll_mk3 t0 t1 (shut_int Try.underlying3 w2), rfl, hb.frame _, fun h => by cases h⟩⟩

theorem over : Rows.arenaAnyRow.holds Try.pinned (OpenSpec.ofChange Rows.arenaAnySpec) :=
  OpenClaim.holds_of_wide 3 Try.f3 rfl rfl rfl rfl rfl rfl rfl ⟨rfl, rfl, rfl, rfl, rfl⟩ rfl rfl rfl rfl rfl (by kernel_rfl) Try.func3 (by kernel_rfl)
    (of_decide_eq_true (by kernel_rfl)) (by unfold Func.isWrapper; first | (rw [if_pos (by decide +kernel)]; kernel_rfl) | (rw [if_neg (by decide +kernel)]; exact ⟨rfl, rfl⟩))
    (fun os started H enc _ => lifted os started H enc)

/-- THE STATEMENT -/
theorem proved : Rows.ArenaAnySaid :=
  over
#print axioms proved
end Go.Proofs.Ytcaefdngdmnpmaa.arenaAny
