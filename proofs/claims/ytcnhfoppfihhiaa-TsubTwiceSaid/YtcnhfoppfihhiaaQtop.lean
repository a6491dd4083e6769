/- The contract of the document's own Sub of levels in terms: the term with others put in, or what was wrong. No condition but that the term and the levels lie in memory. -/
import Derived.Test.YtcnhfoppfihhiaaQsub
import Derived.Test.YtcnhfoppfihhiaaQright
import Derived.Test.YtcnhfoppfihhiaaTrright2
namespace Go.Proofs.Ytcnhfoppfihhiaa
open Go.RowKit

theorem lvsz_mono9 {N M : Nat} (h : N ≤ M) : ∀ {f : Ft}, f.lvsz N → f.lvsz M
  | .nil, _ => trivial
  | .cons .., hf => ⟨Nat.le_trans hf.1 h, lvsz_mono9 h hf.2.1, lvsz_mono9 h hf.2.2⟩
theorem sh_small9 {k n : Int} {ls : Fo} {f : Ft} (h : shB k n ls f = true) : f.size ≤ 1000 ∧ f.lvsz 1000 ∧ ls.size ≤ 1000 := by
  obtain ⟨h1, h2, h3⟩ := shB_parts h
  exact ⟨by omega, lvsz_mono9 (by omega) (tAll_lvsz h3), by have := tfits_lvsz h2; omega⟩
/-- What is answered, in memory. -/
def QaPost (A : Tm × Int) (w : World) (e : Ending) (w' : World) : Prop :=
  ∃ (la : Option Addr) (lc : Nat) (x : Option Addr) (c : Nat), e = .returned (.tuple #[.agg #[.int .i64 A.1.k, .int .i64 A.1.n, .slice la A.1.ls.len lc, .slice x A.1.ks.len c], .int .i64 A.2]) ∧ SlIn w' (· < w'.heap.size) A.1.ls la lc ∧ TlIn w' (· < w'.heap.size) A.1.ks x c ∧ Below w.heap.size w w'
theorem QaPost.no {E : Int} {w w' : World} (h : Below w.heap.size w w') : QaPost (tZ, E) w (.returned (.tuple #[.agg #[.int .i64 0, .int .i64 0, .slice none 0 0, .slice none 0 0], .int .i64 E])) w' := ⟨none, 0, none, 0, rfl, SlIn.none _ _, TlIn.none _ _, h⟩
/-- What may be put into what, by the term's shape. -/
def okQ (P Q : Fo) (sh : Bool) : Bool := sh && (decide (P.len ≤ 5) && (decide (Q.len ≤ 10) && (allR P && allR Q)))
theorem qA_1 {P Q : Fo} {T : Tm} (h : okQ P Q T.sh = false) : qA P Q T = (tZ, 1) := by
  unfold qA
  rw [if_neg]
  rintro ⟨h1, h2⟩
  unfold okQ at h
  unfold parB at h2
  rw [h1, h2] at h
  cases h
theorem qA_2 {P Q : Fo} {T : Tm} (h : okQ P Q T.sh = true) : qA P Q T = if T.qok P Q = true then (T.q P Q, 0) else (tZ, 2) := by
  unfold okQ at h
  rw [Bool.and_eq_true] at h
  unfold qA
  rw [if_pos ⟨h.1, h.2⟩]

/-- The two variables that it begins with. -/
def TuW (w : World) (k n : Int) (la ka : Option Addr) (l lc m kc : Nat) : World := (w.alloc (.cells #[.int .i64 k, .int .i64 n, .slice la l lc, .slice ka m kc] 29)).alloc (.cells #[.int .i64 0, .int .i64 0, .slice none 0 0, .slice none 0 0] 29)
theorem tuW_size (w : World) (k n : Int) (la ka : Option Addr) (l lc m kc : Nat) : (TuW w k n la ka l lc m kc).heap.size = w.heap.size + 1 + 1 := by simp [TuW]
theorem tuW_at {w w1 : World} {k n : Int} {la ka : Option Addr} {l lc m kc : Nat} (hb : Below (w.heap.size + 1 + 1) (TuW w k n la ka l lc m kc) w1) :
    w1.heap[w.heap.size]? = some (.cells #[.int .i64 k, .int .i64 n, .slice la l lc, .slice ka m kc] 29 (0, 0)) ∧ w1.heap[w.heap.size + 1]? = some (.cells #[.int .i64 0, .int .i64 0, .slice none 0 0, .slice none 0 0] 29 (0, 0)) ∧ Below w.heap.size w w1 ∧ w.heap.size + 1 + 1 ≤ w1.heap.size := by
  have hz := hb.size
  rw [tuW_size] at hz
  refine ⟨(hb.block _ (by omega)).trans ((heap_old _ _ (by simp)).trans (heap_new _ _)), (hb.block _ (by omega)).trans (heap_second _ _ _), ?_, hz⟩
  exact (((Below.refl _ _).alloc (Nat.le_refl _) _).alloc (by simp) _).trans (hb.mono (by omega))
theorem tuW_step {w w1 w2 : World} {k n : Int} {la ka : Option Addr} {l lc m kc : Nat} (hb : Below (w.heap.size + 1 + 1) (TuW w k n la ka l lc m kc) w1) (hb2 : Below w1.heap.size w1 w2) : Below (w.heap.size + 1 + 1) (TuW w k n la ka l lc m kc) w2 :=
  Below.step hb hb2 (by rw [tuW_size]; exact Nat.le_refl _)
theorem tuW_cells {w w1 : World} {k n : Int} {la ka : Option Addr} {l lc m kc : Nat} (hb : Below (w.heap.size + 1 + 1) (TuW w k n la ka l lc m kc) w1) :
    (w1.cell? ⟨w.heap.size, 0, none⟩ = some (.int .i64 k) ∧ w1.cell? ⟨w.heap.size, 1, none⟩ = some (.int .i64 n) ∧ w1.cell? ⟨w.heap.size, 2, none⟩ = some (.slice la l lc) ∧ w1.cell? ⟨w.heap.size, 3, none⟩ = some (.slice ka m kc)) ∧
    (w1.cell? ⟨w.heap.size + 1, 0, none⟩ = some (.int .i64 0) ∧ w1.cell? ⟨w.heap.size + 1, 1, none⟩ = some (.int .i64 0) ∧ w1.cell? ⟨w.heap.size + 1, 2, none⟩ = some (.slice none 0 0) ∧ w1.cell? ⟨w.heap.size + 1, 3, none⟩ = some (.slice none 0 0)) ∧ (∀ o, w1.frozen? ⟨w.heap.size + 1, o, none⟩ = false) ∧ w.heap.size + 1 < w1.heap.size := by
  obtain ⟨h1, h2, _, h6⟩ := tuW_at hb
  exact ⟨⟨cell_at h1 0, cell_at h1 1, cell_at h1 2, cell_at h1 3⟩, ⟨cell_at h2 0, cell_at h2 1, cell_at h2 2, cell_at h2 3⟩, free_of h2, by omega⟩
theorem tuW_low {w w1 : World} {k n : Int} {la ka : Option Addr} {l lc m kc : Nat} (hb : Below (w.heap.size + 1 + 1) (TuW w k n la ka l lc m kc) w1) (x y z u : Value) :
    Below w.heap.size w ((((w1.setCell ⟨w.heap.size + 1, 0, none⟩ x).setCell ⟨w.heap.size + 1, 1, none⟩ y).setCell ⟨w.heap.size + 1, 2, none⟩ z).setCell ⟨w.heap.size + 1, 3, none⟩ u) :=
  ((((tuW_at hb).2.2.1.setCell (by simp) _).setCell (by simp) _).setCell (by simp) _).setCell (by simp) _

set_option maxRecDepth 100000 in
set_option maxHeartbeats 8000000 in
theorem r15Sub_any (P Q : Fo) (T : Tm) (la ka ap aq : Option Addr) (lc kc cp cq B : Nat) (w : World) (hls : SlIn w (· < B) T.ls la lc) (hsl : TlIn w (· < B) T.ks ka kc) (hsp : SlIn w (· < B) P ap cp) (hsq : SlIn w (· < B) Q aq cq) (hB : B ≤ w.heap.size) :
    Calls Try.prog 19 #[.agg #[.int .i64 T.k, .int .i64 T.n, .slice la T.ls.len lc, .slice ka T.ks.len kc], .slice ap P.len cp, .slice aq Q.len cq] w (QaPost (qA P Q T) w) := by
  have hb0 : Below (w.heap.size + 1 + 1) (TuW w T.k T.n la ka T.ls.len lc T.ks.len kc) (TuW w T.k T.n la ka T.ls.len lc T.ks.len kc) := Below.refl _ _
  have hlp := hsp.len
  have hlq := hsq.len
  have HL : Hid (∀ W, Below (w.heap.size + 1 + 1) (TuW w T.k T.n la ka T.ls.len lc T.ks.len kc) W → Calls Try.prog 28 #[.agg #[.int .i64 T.k, .int .i64 T.n, .slice la T.ls.len lc, .slice ka T.ks.len kc]] W fun e w' => e = .returned (.bool T.sh) ∧ Below W.heap.size W w') := Lib.hid (fun W h =>
    r13Shape_any T.k T.n T.ls T.ks la ka lc kc B W (hls.below ((tuW_at h).2.2.1.mono hB)) (hsl.below ((tuW_at h).2.2.1.mono hB)) (by have := (tuW_at h).2.2.2; omega))
  have HP : Hid (∀ W, Below (w.heap.size + 1 + 1) (TuW w T.k T.n la ka T.ls.len lc T.ks.len kc) W → Calls Try.prog 34 #[.slice ap P.len cp] W fun e w' => e = .returned (.bool (allR P)) ∧ Below W.heap.size W w') := Lib.hid (fun W h =>
    r15right_any P ap cp B W (hsp.below ((tuW_at h).2.2.1.mono hB)) (by have := (tuW_at h).2.2.2; omega))
  have HQ : Hid (∀ W, Below (w.heap.size + 1 + 1) (TuW w T.k T.n la ka T.ls.len lc T.ks.len kc) W → Calls Try.prog 34 #[.slice aq Q.len cq] W fun e w' => e = .returned (.bool (allR Q)) ∧ Below W.heap.size W w') := Lib.hid (fun W h =>
    r15right_any Q aq cq B W (hsq.below ((tuW_at h).2.2.1.mono hB)) (by have := (tuW_at h).2.2.2; omega))
  have HNO : Hid (okQ P Q T.sh = false → ∀ W, Below (w.heap.size + 1 + 1) (TuW w T.k T.n la ka T.ls.len lc T.ks.len kc) W → QaPost (qA P Q T) w (.returned (.tuple #[.agg #[.int .i64 0, .int .i64 0, .slice none 0 0, .slice none 0 0], .int .i64 1])) ((((W.setCell ⟨w.heap.size + 1, 0, none⟩ (.int .i64 0)).setCell ⟨w.heap.size + 1, 1, none⟩ (.int .i64 0)).setCell ⟨w.heap.size + 1, 2, none⟩ (.slice none 0 0)).setCell ⟨w.heap.size + 1, 3, none⟩ (.slice none 0 0))) := Lib.hid (fun h W hb => by
    rw [qA_1 h]
    exact QaPost.no (tuW_low hb _ _ _ _))
  by_cases h1 : P.len ≤ 5
  · have d1 : decide ((5 : Int) < (P.len : Int)) = false := by simp; omega
    by_cases h2 : Q.len ≤ 10
    · have d2 : decide ((10 : Int) < (Q.len : Int)) = false := by simp; omega
      have HOK : Hid (okQ P Q T.sh = (T.sh && (allR P && allR Q))) := Lib.hid (by unfold okQ; rw [decide_eq_true h1, decide_eq_true h2]; rfl)
      have HSB : Hid (∀ (W : World), Below (w.heap.size + 1 + 1) (TuW w T.k T.n la ka T.ls.len lc T.ks.len kc) W → T.sh = true → Calls Try.prog 35 #[.agg #[.int .i64 T.k, .int .i64 T.n, .slice la T.ls.len lc, .slice ka T.ks.len kc], .slice ap P.len cp, .slice aq Q.len cq] W (QsPost B (qS P Q T) W)) := Lib.hid (fun W hb r1 => by
        obtain ⟨_, _, y5, y6⟩ := tuW_at hb
        have yB := y5.mono hB
        obtain ⟨p1, p2, p3⟩ := sh_small9 r1
        exact r15sub_any P Q ap aq cp cq B (T.ks.size + 1) T.ks (Nat.lt_succ_self _) p1 p2 T.k T.n T.ls la ka lc kc W p3 (hsp.below yB) (hsq.below yB) (hls.below yB) (hsl.below yB) (by omega))
      have HYES : Hid (okQ P Q T.sh = true → qA P Q T = if T.qok P Q = true then (T.q P Q, 0) else (tZ, 2)) := Lib.hid (qA_2)
      generalize hv : T.sh = v at HL HOK HSB HNO HYES
      generalize hvp : allR P = vp at HP HOK
      generalize hvq : allR Q = vq at HQ HOK
      clear hv hvp hvq hsl hls hsp hsq
      have HB0 := Lib.hid hb0
      clear hb0
      go_enter Try.func19, Try.ntmps19
      go_wp2_with fail
      refine (HL.out _ HB0.out).mono ?_
      rintro e w1 ⟨rfl, hb1⟩
      have B1 := Lib.hid (tuW_step HB0.out hb1)
      clear hb1
      obtain ⟨⟨x1, x2, x3, x4⟩, ⟨z1, z2, z3, z4⟩, zf, zl⟩ := tuW_cells B1.out
      cases v with
      | false =>
        have HE := Lib.hid (HNO.out HOK.out w1 B1.out)
        go_wp2_with fail
        refine bodyPost_ret (v := .tuple #[.agg #[.int .i64 0, .int .i64 0, .slice none 0 0, .slice none 0 0], .int .i64 1]) (by simp [results, Try.results19, go_sem, z1, z2, z3, z4]) rfl ?_
        exact HE.out
      | true =>
        go_wp2_with fail
        refine (HP.out _ B1.out).mono ?_
        rintro e w2 ⟨rfl, hb2⟩
        have B2 := Lib.hid (tuW_step B1.out hb2)
        clear hb2 x1 x2 x3 x4 z1 z2 z3 z4 zf zl
        obtain ⟨⟨x1, x2, x3, x4⟩, ⟨z1, z2, z3, z4⟩, zf, zl⟩ := tuW_cells B2.out
        cases vp with
        | false =>
          have HE := Lib.hid (HNO.out HOK.out w2 B2.out)
          go_wp2_with fail
          refine bodyPost_ret (v := .tuple #[.agg #[.int .i64 0, .int .i64 0, .slice none 0 0, .slice none 0 0], .int .i64 1]) (by simp [results, Try.results19, go_sem, z1, z2, z3, z4]) rfl ?_
          exact HE.out
        | true =>
          go_wp2_with fail
          refine (HQ.out _ B2.out).mono ?_
          rintro e w3 ⟨rfl, hb3⟩
          have B3 := Lib.hid (tuW_step B2.out hb3)
          clear hb3 x1 x2 x3 x4 z1 z2 z3 z4 zf zl
          obtain ⟨⟨x1, x2, x3, x4⟩, ⟨z1, z2, z3, z4⟩, zf, zl⟩ := tuW_cells B3.out
          cases vq with
          | false =>
            have HE := Lib.hid (HNO.out HOK.out w3 B3.out)
            go_wp2_with fail
            refine bodyPost_ret (v := .tuple #[.agg #[.int .i64 0, .int .i64 0, .slice none 0 0, .slice none 0 0], .int .i64 1]) (by simp [results, Try.results19, go_sem, z1, z2, z3, z4]) rfl ?_
            exact HE.out
          | true =>
            have HY := Lib.hid (HYES.out HOK.out)
            clear HYES HNO
            go_wp2_with fail
            cases hq : T.qok P Q with
            | false =>
              have HY2 : Hid (qA P Q T = (tZ, 2)) := Lib.hid (by rw [HY.out, if_neg (by rw [hq]; simp)])
              have HS2 := Lib.hid (HSB.out w3 B3.out trivial)
              rw [qS_no hq] at HS2
              clear HSB HY hq
              refine HS2.out.mono ?_
              rintro e w4 ⟨y1, m1, y2, m2, rfl, -, -, hb4⟩
              go_upto_region 5 with fail
              obtain ⟨w5, hw5⟩ : ∃ w5, w5 = w4.alloc (.cells #[.int .i64 tZ.k, .int .i64 tZ.n, .slice y1 tZ.ls.len m1, .slice y2 tZ.ks.len m2] 29) := ⟨_, rfl⟩
              have B5 : Hid (Below (w.heap.size + 1 + 1) (TuW w T.k T.n la ka T.ls.len lc T.ks.len kc) w5) := Lib.hid (by rw [hw5]; exact tuW_step (tuW_step B3.out hb4) ((Below.refl _ _).alloc (Nat.le_refl _) _))
              rw [← hw5]
              clear hb4 hw5 x1 x2 x3 x4 z1 z2 z3 z4 zf zl
              obtain ⟨⟨x1, x2, x3, x4⟩, ⟨z1, z2, z3, z4⟩, zf, zl⟩ := tuW_cells B5.out
              have HE := Lib.hid (QaPost.no (E := 2) (tuW_low B5.out (.int .i64 0) (.int .i64 0) (.slice none 0 0) (.slice none 0 0)))
              go_wp2_with fail
              refine bodyPost_ret (v := .tuple #[.agg #[.int .i64 0, .int .i64 0, .slice none 0 0, .slice none 0 0], .int .i64 2]) (by simp [results, Try.results19, go_sem, z1, z2, z3, z4]) rfl ?_
              rw [HY2.out]
              exact HE.out
            | true =>
              have HY2 : Hid (qA P Q T = (T.q P Q, 0)) := Lib.hid (by rw [HY.out, if_pos hq])
              have HS2 := Lib.hid (HSB.out w3 B3.out trivial)
              rw [qS_yes hq] at HS2
              clear HSB HY hq
              generalize T.q P Q = U at HS2 HY2
              refine HS2.out.mono ?_
              rintro e w4 ⟨y1, m1, y2, m2, rfl, t0, t1, hb4⟩
              go_upto_region 6 with fail
              obtain ⟨w5, hw5⟩ : ∃ w5, w5 = w4.alloc (.cells #[.int .i64 U.k, .int .i64 U.n, .slice y1 U.ls.len m1, .slice y2 U.ks.len m2] 29) := ⟨_, rfl⟩
              have B5 : Hid (Below (w.heap.size + 1 + 1) (TuW w T.k T.n la ka T.ls.len lc T.ks.len kc) w5) := Lib.hid (by rw [hw5]; exact tuW_step (tuW_step B3.out hb4) ((Below.refl _ _).alloc (Nat.le_refl _) _))
              have hn := heap_new w4 (.cells #[.int .i64 U.k, .int .i64 U.n, .slice y1 U.ls.len m1, .slice y2 U.ks.len m2] 29)
              have hbx : Below w4.heap.size w4 w5 := by rw [hw5]; exact (Below.refl _ _).alloc (Nat.le_refl _) _
              have hz3 := (tuW_at B3.out).2.2.2
              have hz4 := hb4.size
              rw [← hw5] at hn ⊢
              have hg := set4_only (w := w5) (w.heap.size + 1) (.int .i64 U.k) (.int .i64 U.n) (.slice y1 U.ls.len m1) (.slice y2 U.ks.len m2)
              have hgz := hg.size
              have HE : Hid (QaPost (U, 0) w (.returned (.tuple #[.agg #[.int .i64 U.k, .int .i64 U.n, .slice y1 U.ls.len m1, .slice y2 U.ks.len m2], .int .i64 0])) ((((w5.setCell ⟨w.heap.size + 1, 0, none⟩ (.int .i64 U.k)).setCell ⟨w.heap.size + 1, 1, none⟩ (.int .i64 U.n)).setCell ⟨w.heap.size + 1, 2, none⟩ (.slice y1 U.ls.len m1)).setCell ⟨w.heap.size + 1, 3, none⟩ (.slice y2 U.ks.len m2))) := Lib.hid
                ⟨y1, m1, y2, m2, rfl, ((t0.keep (fun b hb => hbx.block b hb.2)).keep (fun b hb => Only.block hg (by have := hbx.size; omega) (by omega))).weak (fun b hb => by have := hbx.size; omega),
                  (t1.turn (fun b hb => hbx.block b hb.2) (fun b hb => hb)).turn (fun b hb => Only.block hg (by have := hbx.size; omega) (by omega)) (fun b hb => by have := hbx.size; omega), tuW_low B5.out _ _ _ _⟩
              obtain ⟨n0, n1, n2, n3⟩ := cells4 hn
              clear hb4 hw5 x1 x2 x3 x4 z1 z2 z3 z4 zf zl t0 t1 hg hgz hbx hn hz3 hz4
              obtain ⟨⟨x1, x2, x3, x4⟩, ⟨z1, z2, z3, z4⟩, zf, zl⟩ := tuW_cells B5.out
              go_wp2_with fail
              refine bodyPost_ret (v := .tuple #[.agg #[.int .i64 U.k, .int .i64 U.n, .slice y1 U.ls.len m1, .slice y2 U.ks.len m2], .int .i64 0]) (by simp [results, Try.results19, go_sem, z1, z2, z3, z4]) rfl ?_
              rw [HY2.out]
              exact HE.out
    · have d2 : decide ((10 : Int) < (Q.len : Int)) = true := by simp; omega
      have hok : okQ P Q T.sh = false := by unfold okQ; rw [decide_eq_false h2]; simp
      have HE := Lib.hid (HNO.out hok)
      generalize T.sh = v at HL
      have HB0 := Lib.hid hb0
      clear hls hsl hsp hsq hb0 HNO
      go_enter Try.func19, Try.ntmps19
      go_wp2_with fail
      refine (HL.out _ HB0.out).mono ?_
      rintro e w1 ⟨rfl, hb1⟩
      have B1 := Lib.hid (tuW_step HB0.out hb1)
      clear hb1
      obtain ⟨⟨x1, x2, x3, x4⟩, ⟨z1, z2, z3, z4⟩, zf, zl⟩ := tuW_cells B1.out
      cases v
      all_goals
        go_wp2_with fail
        refine bodyPost_ret (v := .tuple #[.agg #[.int .i64 0, .int .i64 0, .slice none 0 0, .slice none 0 0], .int .i64 1]) (by simp [results, Try.results19, go_sem, z1, z2, z3, z4]) rfl ?_
        exact HE.out w1 B1.out
  · have d1 : decide ((5 : Int) < (P.len : Int)) = true := by simp; omega
    have hok : okQ P Q T.sh = false := by unfold okQ; rw [decide_eq_false h1]; simp
    have HE := Lib.hid (HNO.out hok)
    generalize T.sh = v at HL
    have HB0 := Lib.hid hb0
    clear hls hsl hsp hsq hb0 HNO
    go_enter Try.func19, Try.ntmps19
    go_wp2_with fail
    refine (HL.out _ HB0.out).mono ?_
    rintro e w1 ⟨rfl, hb1⟩
    have B1 := Lib.hid (tuW_step HB0.out hb1)
    clear hb1
    obtain ⟨⟨x1, x2, x3, x4⟩, ⟨z1, z2, z3, z4⟩, zf, zl⟩ := tuW_cells B1.out
    cases v
    all_goals
      go_wp2_with fail
      refine bodyPost_ret (v := .tuple #[.agg #[.int .i64 0, .int .i64 0, .slice none 0 0, .slice none 0 0], .int .i64 1]) (by simp [results, Try.results19, go_sem, z1, z2, z3, z4]) rfl ?_
      exact HE.out w1 B1.out
end Go.Proofs.Ytcnhfoppfihhiaa
