/- For every two terms and numbers the law TermAny returns true: what the program tells of them is what the document's own answer tells. No condition. -/
import Derived.Test.YtokckghedpdfiaaTawake
import Derived.Test.YtokckghedpdfiaaTopenarg
import Derived.Carry
namespace Go.Proofs.Ytokckghedpdfiaa.termAny
open Go.ChangeShapes Go.WideShapes Go.ChangeAt Go.RowKit

theorem sm_of_few {T : Tm} (h : ¬ few1 T.ls T.ks 1000 ≤ 0) : smT T := by
  have := few1_yes (ls := T.ls) (ks := T.ks) (by omega)
  exact ⟨by have := Ft.size_le_bulk T.ks; omega, Ft.lvsz_of_bulk T.ks (by omega), by omega⟩
set_option maxRecDepth 100000 in
set_option maxHeartbeats 4000000 in
theorem walk (t u : Tm) (fr by' : Int) (la ka la' ka' : Option Addr) (lc kc lc' kc' : Nat) (w : World) (ht : TmIn w w.heap.size t la lc ka kc) (hu : TmIn w w.heap.size u la' lc' ka' kc') :
    Calls Try.prog 3 #[.agg #[.int .i64 t.k, .int .i64 t.n, .slice la t.ls.len lc, .slice ka t.ks.len kc], .agg #[.int .i64 u.k, .int .i64 u.n, .slice la' u.ls.len lc', .slice ka' u.ks.len kc'], .int .i64 fr, .int .i64 by'] w fun e w' => e = .returned (.bool true) ∧ Below w.heap.size w w' := by
  have hb1 : Below w.heap.size w (w.alloc (.cells #[.int .i64 t.k, .int .i64 t.n, .slice la t.ls.len lc, .slice ka t.ks.len kc] 25)) := (Below.refl _ _).alloc (Nat.le_refl _) _
  have t1 := TmBox.new ht
  have u1 : TmIn (w.alloc (.cells #[.int .i64 t.k, .int .i64 t.n, .slice la t.ls.len lc, .slice ka t.ks.len kc] 25)) (w.alloc (.cells #[.int .i64 t.k, .int .i64 t.n, .slice la t.ls.len lc, .slice ka t.ks.len kc] 25)).heap.size u la' lc' ka' kc' := by
    have h := hu.later hb1
    exact ⟨h.1.mono (by simp), h.2.1.mono (by simp), Nat.le_refl _⟩
  have u2 := TmBox.new u1
  have hb2 : Below (w.alloc (.cells #[.int .i64 t.k, .int .i64 t.n, .slice la t.ls.len lc, .slice ka t.ks.len kc] 25)).heap.size (w.alloc (.cells #[.int .i64 t.k, .int .i64 t.n, .slice la t.ls.len lc, .slice ka t.ks.len kc] 25)) ((w.alloc (.cells #[.int .i64 t.k, .int .i64 t.n, .slice la t.ls.len lc, .slice ka t.ks.len kc] 25)).alloc (.cells #[.int .i64 u.k, .int .i64 u.n, .slice la' u.ls.len lc', .slice ka' u.ks.len kc'] 25)) := (Below.refl _ _).alloc (Nat.le_refl _) _
  have T2 := Lib.hid (t1.later hb2)
  have HB2 := Lib.hid (Below.step hb1 hb2 (Nat.le_refl _))
  rw [World.size_alloc] at u2
  have U2 := Lib.hid u2
  have HF : Hid (∀ (N : Nat) (W : World), TmBox W N t la lc ka kc → Calls Try.prog 9 #[.agg #[.int .i64 t.k, .int .i64 t.n, .slice la t.ls.len lc, .slice ka t.ks.len kc], .int .i64 1000] W fun e w' => e = .returned (.int .i64 (few1 t.ls t.ks 1000)) ∧ Below W.heap.size W w') := Lib.hid (fun N W h => tfew_any (t.ks.size + 1) t.ks (Nat.lt_succ_self _) t.k t.n 1000 t.ls la ka lc kc N W h.2.1 h.2.2.1 h.2.2.2 (by omega) (by omega))
  have HG : Hid (∀ (N : Nat) (W : World), TmBox W N u la' lc' ka' kc' → Calls Try.prog 9 #[.agg #[.int .i64 u.k, .int .i64 u.n, .slice la' u.ls.len lc', .slice ka' u.ks.len kc'], .int .i64 1000] W fun e w' => e = .returned (.int .i64 (few1 u.ls u.ks 1000)) ∧ Below W.heap.size W w') := Lib.hid (fun N W h => tfew_any (u.ks.size + 1) u.ks (Nat.lt_succ_self _) u.k u.n 1000 u.ls la' ka' lc' kc' N W h.2.1 h.2.2.1 h.2.2.2 (by omega) (by omega))
  have HS1 := Lib.hid (@sm_of_few t)
  have HS2 := Lib.hid (@sm_of_few u)
  generalize few1 t.ls t.ks 1000 = x at HF HS1
  generalize few1 u.ls u.ks 1000 = y at HG HS2
  clear t1 u1 u2 hb1 hb2 ht hu
  by_cases h1 : x ≤ 0
  · have d1 : decide (x ≤ 0) = true := decide_eq_true h1
    go_enter Try.func3, Try.ntmps3
    go_wp2_with fail
    refine (awake13_any _).mono ?_
    rintro e w1 ⟨rfl, hb⟩
    have T3 := Lib.hid (T2.out.later hb)
    have HB3 := Lib.hid (Below.step HB2.out hb (Nat.le_refl _))
    obtain ⟨c0, c1, c2, c3⟩ := T3.out.cells
    clear hb T2 U2 HB2
    go_wp2_with fail
    refine (HF.out _ _ T3.out).mono ?_
    rintro e w2 ⟨rfl, hb⟩
    have HB4 := Lib.hid (Below.step HB3.out hb (Nat.le_refl _))
    clear hb c0 c1 c2 c3
    go_wp2_with fail
    go_ret
    exact ⟨rfl, HB4.out⟩
  · have d1 : decide (x ≤ 0) = false := decide_eq_false h1
    by_cases h2 : y ≤ 0
    · have d2 : decide (y ≤ 0) = true := decide_eq_true h2
      go_enter Try.func3, Try.ntmps3
      go_wp2_with fail
      refine (awake13_any _).mono ?_
      rintro e w1 ⟨rfl, hb⟩
      have T3 := Lib.hid (T2.out.later hb)
      have U3 := Lib.hid (U2.out.later hb)
      have HB3 := Lib.hid (Below.step HB2.out hb (Nat.le_refl _))
      obtain ⟨c0, c1, c2, c3⟩ := T3.out.cells
      clear hb T2 U2 HB2
      go_wp2_with fail
      refine (HF.out _ _ T3.out).mono ?_
      rintro e w2 ⟨rfl, hb⟩
      have U4 := Lib.hid (U3.out.later hb)
      have HB4 := Lib.hid (Below.step HB3.out hb (Nat.le_refl _))
      clear hb c0 c1 c2 c3 T3 U3
      obtain ⟨c0, c1, c2, c3⟩ := U4.out.cells
      go_wp2_with fail
      refine (HG.out _ _ U4.out).mono ?_
      rintro e w3 ⟨rfl, hb⟩
      have HB5 := Lib.hid (Below.step HB4.out hb (Nat.le_refl _))
      clear hb c0 c1 c2 c3
      go_wp2_with fail
      go_ret
      exact ⟨rfl, HB5.out⟩
    · have d2 : decide (y ≤ 0) = false := decide_eq_false h2
      have S1 := Lib.hid (HS1.out h1)
      have S2 := Lib.hid (HS2.out h2)
      have HT : Hid (∀ (N M : Nat) (W : World), TmBox W N t la lc ka kc → TmBox W M u la' lc' ka' kc' → Calls Try.prog 10 #[.agg #[.int .i64 t.k, .int .i64 t.n, .slice la t.ls.len lc, .slice ka t.ks.len kc], .agg #[.int .i64 u.k, .int .i64 u.n, .slice la' u.ls.len lc', .slice ka' u.ks.len kc'], .int .i64 fr, .int .i64 by'] W fun e w' => e = .returned (.bool true) ∧ Below W.heap.size W w') := Lib.hid (fun N M W h h' => told13_any t u fr by' la ka la' ka' lc kc lc' kc' W ⟨h.2.1.mono h.2.2.2, h.2.2.1.mono h.2.2.2, Nat.le_refl _⟩ ⟨h'.2.1.mono h'.2.2.2, h'.2.2.1.mono h'.2.2.2, Nat.le_refl _⟩ S1.out S2.out)
      clear S1 S2 HS1 HS2
      go_enter Try.func3, Try.ntmps3
      go_wp2_with fail
      refine (awake13_any _).mono ?_
      rintro e w1 ⟨rfl, hb⟩
      have T3 := Lib.hid (T2.out.later hb)
      have U3 := Lib.hid (U2.out.later hb)
      have HB3 := Lib.hid (Below.step HB2.out hb (Nat.le_refl _))
      obtain ⟨c0, c1, c2, c3⟩ := T3.out.cells
      clear hb T2 U2 HB2
      go_wp2_with fail
      refine (HF.out _ _ T3.out).mono ?_
      rintro e w2 ⟨rfl, hb⟩
      have T4 := Lib.hid (T3.out.later hb)
      have U4 := Lib.hid (U3.out.later hb)
      have HB4 := Lib.hid (Below.step HB3.out hb (Nat.le_refl _))
      clear hb c0 c1 c2 c3 T3 U3
      obtain ⟨c0, c1, c2, c3⟩ := U4.out.cells
      go_wp2_with fail
      refine (HG.out _ _ U4.out).mono ?_
      rintro e w3 ⟨rfl, hb⟩
      have T5 := Lib.hid (T4.out.later hb)
      have U5 := Lib.hid (U4.out.later hb)
      have HB5 := Lib.hid (Below.step HB4.out hb (Nat.le_refl _))
      clear hb c0 c1 c2 c3 T4 U4
      obtain ⟨c0, c1, c2, c3⟩ := T5.out.cells
      obtain ⟨e0, e1, e2, e3⟩ := U5.out.cells
      go_wp2_with fail
      refine (HT.out _ _ _ T5.out U5.out).mono ?_
      rintro e w4 ⟨rfl, hb⟩
      have HB6 := Lib.hid (Below.step HB5.out hb (Nat.le_refl _))
      clear hb c0 c1 c2 c3 e0 e1 e2 e3
      go_wp2_with fail
      go_ret
      exact ⟨rfl, HB6.out⟩

theorem own : ownKnob Try.prog.godebug = none := by kernel_rfl
set_option maxRecDepth 100000 in
theorem lifted (os : Os) (started : os.Started) (H : Type) (enc : TypeId × Value → H) :
    ReturnsInHanded {} Try.checked os 3 .any (Rows.termAnySpec.pre6 enc Try.prog Try.f3 Rows.termAnyRow.domain false) (Rows.termAnySpec.post enc Try.prog Try.f3 false true false false) := by
  refine returnsInHanded_of_change (C := Try.checked) own started (by kernel_rfl) Try.func3
    (ChangeSpec.witness6 (enc := enc) (C := Try.checked) false ⟨#[], #[.agg #[.int .i64 0, .int .i64 0, .slice none 0 0, .slice none 0 0], .agg #[.int .i64 0, .int .i64 0, .slice none 0 0, .slice none 0 0], .int .i64 0, .int .i64 0], []⟩ 8 (by kernel_rfl) (by kernel_rfl) (by kernel_rfl) (by kernel_rfl)) ?_
  intro W base args ds gs before hval0 hW hcnd _
  have hval : ∀ (j : Nat) t v, Try.f3.params[j]? = some t → args[j]? = some v → Value.okWide Try.prog W .any base t v := hval0
  have hW' := hW
  obtain ⟨p, q, hA0, hV, rfl, hfz, hnd⟩ := hW
  have hA : DataW.TrodAll enc Try.prog W 0 (fun _ => true) true Try.f3.params.toList args.toList ds p := hA0
  rw [Try.params3] at hA hval
  obtain ⟨v0, vs0, d0, ds0, p0, q0, hargs, rfl, rfl, h0, hr0⟩ := trodAll_cons hA
  obtain ⟨v1, vs1, d1, ds1, p1, q1, rfl, rfl, rfl, h1, hr1⟩ := trodAll_cons hr0
  obtain ⟨v2, vs2, d2, ds2, p2, q2, rfl, rfl, rfl, h2, hr2⟩ := trodAll_cons hr1
  obtain ⟨v3, vs3, d3, ds3, p3, q3, rfl, rfl, rfl, h3, hr3⟩ := trodAll_cons hr2
  obtain ⟨rfl, rfl, rfl⟩ := trodAll_nil hr3
  obtain rfl : args = #[v0, v1, v2, v3] := by cases args; simp_all
  obtain ⟨rfl, rfl⟩ := trodVars_none hV
  obtain ⟨t, la, lc, ka, kc, rfl, ht⟩ := arg_term (hval 0 25 v0 rfl rfl) h0
  obtain ⟨u, la', lc', ka', kc', rfl, hu⟩ := arg_term (hval 1 25 v1 rfl rfl) h1
  obtain ⟨N, rfl, rfl, rfl, w2⟩ := open_int Try.underlying3 (hval 2 3 v2 rfl rfl) h2
  obtain ⟨M, rfl, rfl, rfl, w3⟩ := open_int Try.underlying3 (hval 3 3 v3 rfl rfl) h3
  have hlt := hW'.lt
  refine (walk t u N M la ka la' ka' lc kc lc' kc' W ht hu).mono fun e W' ⟨he, hb⟩ => ?_
  subst he
  have t0 := Below.trod laidOut (by kernel_rfl) (of_decide_eq_true (by kernel_rfl)) h0 hb (fun x hx => hlt x (by simp [hx]))
  have t1 := Below.trod laidOut (by kernel_rfl) (of_decide_eq_true (by kernel_rfl)) h1 hb (fun x hx => hlt x (by simp [hx]))
  exact ⟨_, rfl, ⟨_, _, _, [], _, [], hW', trodAll_mk1 (shut_bool Try.underlying4 _), ⟨_, _, t0, trodAll_mk3 t1 (shut_int Try.underlying3 w2) (shut_int Try.underlying3 w3), rfl⟩, rfl, hb.frame _, fun h => by cases h⟩⟩

theorem over : Rows.termAnyRow.holds Try.pinned (OpenSpec.ofChange Rows.termAnySpec) :=
  OpenClaim.holds_of_wide 3 Try.f3 rfl rfl rfl rfl rfl rfl rfl ⟨rfl, rfl, rfl, rfl, rfl⟩ rfl rfl rfl rfl rfl (by kernel_rfl) Try.func3 (by kernel_rfl)
    (of_decide_eq_true (by kernel_rfl)) (by unfold Func.isWrapper; first | (rw [if_pos (by decide +kernel)]; kernel_rfl) | (rw [if_neg (by decide +kernel)]; exact ⟨rfl, rfl⟩))
    (fun os started H enc _ => lifted os started H enc)

/-- THE STATEMENT -/
theorem proved : Rows.TermAnySaid :=
  over
#print axioms proved
end Go.Proofs.Ytokckghedpdfiaa.termAny
