/- The contracts of the document's own Lift and Open: they answer as the program's do. No condition but that the terms lie in memory. -/
import Derived.Test.YtokckghedpdfiaaTropen
import Derived.Test.YtokckghedpdfiaaTrright2
import Derived.Test.YtokckghedpdfiaaTlift2
import Derived.Test.YtokckghedpdfiaaTopen
namespace Go.Proofs.Ytokckghedpdfiaa
open Go.RowKit

/-- What the document's own Lift and Open answer: the term's slices may lie in old memory. -/
def RePost (A : Tm × Int) (w : World) (e : Ending) (w' : World) : Prop :=
  ∃ (la : Option Addr) (lc : Nat) (x : Option Addr) (c : Nat), e = .returned (.tuple #[.agg #[.int .i64 A.1.k, .int .i64 A.1.n, .slice la A.1.ls.len lc, .slice x A.1.ks.len c], .int .i64 A.2]) ∧ SlIn w' (· < w'.heap.size) A.1.ls la lc ∧ TlIn w' (· < w'.heap.size) A.1.ks x c ∧ Below w.heap.size w w'
theorem RePost.store {R : Nat} {T : Tm} {E : Int} {w w3 : World} {P : Nat → Prop} {la x : Option Addr} {lc c : Nat} (hP : ∀ b, P b → b < w3.heap.size ∧ b ≠ R) (hl : SlIn w3 P T.ls la lc) (hs : TlIn w3 P T.ks x c) (hb : Below w.heap.size w w3) (h1 : w.heap.size ≤ R) :
    RePost (T, E) w (.returned (.tuple #[.agg #[.int .i64 T.k, .int .i64 T.n, .slice la T.ls.len lc, .slice x T.ks.len c], .int .i64 E])) ((((w3.setCell ⟨R, 0, none⟩ (.int .i64 T.k)).setCell ⟨R, 1, none⟩ (.int .i64 T.n)).setCell ⟨R, 2, none⟩ (.slice la T.ls.len lc)).setCell ⟨R, 3, none⟩ (.slice x T.ks.len c)) := by
  have hg := set4_only (w := w3) R (.int .i64 T.k) (.int .i64 T.n) (.slice la T.ls.len lc) (.slice x T.ks.len c)
  refine ⟨la, lc, x, c, rfl, ?_, ?_, ?_⟩
  · exact (hl.keep (fun b hb => Only.block hg (hP b hb).1 (hP b hb).2)).weak (fun b hb => Nat.lt_of_lt_of_le (hP b hb).1 hg.size)
  · exact hs.turn (fun b hb => Only.block hg (hP b hb).1 (hP b hb).2) (fun b hb => Nat.lt_of_lt_of_le (hP b hb).1 hg.size)
  · exact ⟨hg.os.trans hb.os, hg.tape.trans hb.tape, hg.output.trans hb.output, Nat.le_trans hb.size hg.size, fun q hq => (Only.block hg (by have := hb.size; omega) (by omega)).trans (hb.block q hq)⟩

set_option maxRecDepth 100000 in
set_option maxHeartbeats 4000000 in
theorem r13Lift_any (t : Tm) (fr by' : Int) (la ka : Option Addr) (lc kc B : Nat) (w : World) (hls : SlIn w (· < B) t.ls la lc) (hsl : TlIn w (· < B) t.ks ka kc) (hB : B ≤ w.heap.size) :
    Calls Try.prog 23 #[.agg #[.int .i64 t.k, .int .i64 t.n, .slice la t.ls.len lc, .slice ka t.ks.len kc], .int .i64 fr, .int .i64 by'] w (RePost (liftA t fr by') w) := by
  have hb : Below w.heap.size w ((w.alloc (.cells #[.int .i64 t.k, .int .i64 t.n, .slice la t.ls.len lc, .slice ka t.ks.len kc] 25)).alloc (.cells #[.int .i64 0, .int .i64 0, .slice none 0 0, .slice none 0 0] 25)) := ((Below.refl _ _).alloc (Nat.le_refl _) _).alloc (by simp) _
  have HR0 := Lib.hid (heap_second w (.cells #[.int .i64 t.k, .int .i64 t.n, .slice la t.ls.len lc, .slice ka t.ks.len kc] 25) (.cells #[.int .i64 0, .int .i64 0, .slice none 0 0, .slice none 0 0] 25))
  have HQ0 : Hid (((w.alloc (.cells #[.int .i64 t.k, .int .i64 t.n, .slice la t.ls.len lc, .slice ka t.ks.len kc] 25)).alloc (.cells #[.int .i64 0, .int .i64 0, .slice none 0 0, .slice none 0 0] 25)).heap[w.heap.size]? = some (.cells #[.int .i64 t.k, .int .i64 t.n, .slice la t.ls.len lc, .slice ka t.ks.len kc] 25 (0, 0))) := Lib.hid ((heap_old _ _ (by simp)).trans (heap_new _ _))
  have HB := Lib.hid hb
  have HSH := Lib.hid (r13Shape_any t.k t.n t.ls t.ks la ka lc kc B _ (hls.below (hb.mono hB)) (hsl.below (hb.mono hB)) (Nat.le_trans hB hb.size))
  rw [show shB t.k t.n t.ls t.ks = t.sh from rfl] at HSH
  have HLI : Hid (t.sh = true → 0 ≤ fr ∧ fr ≤ 1000 → 0 ≤ by' ∧ by' ≤ 1000 → ∀ (W : World), Below w.heap.size w W → Calls Try.prog 42 #[.agg #[.int .i64 t.k, .int .i64 t.n, .slice la t.ls.len lc, .slice ka t.ks.len kc], .int .i64 fr, .int .i64 by'] W (TmPost B (rep1 (gL fr by') t.k t.n t.ls t.ks 0) W)) := Lib.hid (by
    intro h1 h2 h3 W h
    rw [← lf1_rep (wf_of_sh h1)]
    exact r13lift_any by' (by omega) (by omega) (t.ks.size + 1) t.ks (Nat.lt_succ_self _) (sh_small h1).1 t.k t.n fr t.ls la ka lc kc B W (wf_of_sh h1) h2.1 (by have := (sh_small h1).1; omega) (hls.below (h.mono hB)) (hsl.below (h.mono hB)) (Nat.le_trans hB h.size))
  have HNO : Hid (t.sh = false ∨ ¬ (0 ≤ fr ∧ fr ≤ 1000) ∨ ¬ (0 ≤ by' ∧ by' ≤ 1000) → liftA t fr by' = (tZ, 1)) := Lib.hid liftA_no
  have HYES : Hid (t.sh = true → 0 ≤ fr ∧ fr ≤ 1000 → 0 ≤ by' ∧ by' ≤ 1000 → liftA t fr by' = fin1 (rep1 (gL fr by') t.k t.n t.ls t.ks 0)) := Lib.hid liftA_yes
  generalize t.sh = x at HSH HLI HNO HYES
  generalize rep1 (gL fr by') t.k t.n t.ls t.ks 0 = T at HLI HYES
  generalize liftA t fr by' = A at HNO HYES
  clear hls hsl hb
  have hbad : Hid (∀ w3 : World, Below w.heap.size w w3 → A = (tZ, 1) → RePost A w (.returned (.tuple #[.agg #[.int .i64 0, .int .i64 0, .slice none 0 0, .slice none 0 0], .int .i64 1])) ((((w3.setCell ⟨w.heap.size + 1, 0, none⟩ (.int .i64 0)).setCell ⟨w.heap.size + 1, 1, none⟩ (.int .i64 0)).setCell ⟨w.heap.size + 1, 2, none⟩ (.slice none 0 0)).setCell ⟨w.heap.size + 1, 3, none⟩ (.slice none 0 0))) := Lib.hid (by
    rintro w3 h rfl
    exact RePost.store (R := w.heap.size + 1) (T := tZ) (E := 1) (w := w) (w3 := w3) (P := fun _ => False) (la := none) (lc := 0) (x := none) (c := 0) (fun _ h => h.elim) (SlIn.none _ _) (TlIn.none _ _) h (by omega))
  go_enter Try.func23, Try.ntmps23
  go_wp2_with fail
  refine HSH.out.mono ?_
  rintro e w1 ⟨rfl, hb1⟩
  have HB1 := Lib.hid (Below.step HB.out hb1 (Nat.le_refl _))
  have HR1 := Lib.hid ((hb1.block (w.heap.size + 1) (by simp)).trans HR0.out)
  have HQ1 := Lib.hid ((hb1.block w.heap.size (by simp; omega)).trans HQ0.out)
  have hz1 : w.heap.size + 1 < w1.heap.size := lt_of_block HR1.out
  obtain ⟨q0, q1, q2, q3⟩ := cells4 HQ1.out
  obtain ⟨g0, g1, g2, g3⟩ := cells4 HR1.out
  have gz := free_of HR1.out
  clear hb1
  cases x with
  | false =>
    have HA := Lib.hid (HNO.out (.inl rfl))
    go_wp2_with fail
    refine bodyPost_ret (v := .tuple #[.agg #[.int .i64 0, .int .i64 0, .slice none 0 0, .slice none 0 0], .int .i64 1]) (by simp [results, Try.results23, go_sem, g0, g1, g2, g3]) rfl ?_
    exact hbad.out _ HB1.out HA.out
  | true =>
    by_cases c1 : fr < 0
    · have HA := Lib.hid (HNO.out (.inr (.inl (by omega))))
      have e1 : decide (fr < 0) = true := decide_eq_true c1
      go_wp2_with fail
      refine bodyPost_ret (v := .tuple #[.agg #[.int .i64 0, .int .i64 0, .slice none 0 0, .slice none 0 0], .int .i64 1]) (by simp [results, Try.results23, go_sem, g0, g1, g2, g3]) rfl ?_
      exact hbad.out _ HB1.out HA.out
    · have e1 : decide (fr < 0) = false := decide_eq_false c1
      by_cases c2 : 1000 < fr
      · have HA := Lib.hid (HNO.out (.inr (.inl (by omega))))
        have e2 : decide (1000 < fr) = true := decide_eq_true c2
        go_wp2_with fail
        refine bodyPost_ret (v := .tuple #[.agg #[.int .i64 0, .int .i64 0, .slice none 0 0, .slice none 0 0], .int .i64 1]) (by simp [results, Try.results23, go_sem, g0, g1, g2, g3]) rfl ?_
        exact hbad.out _ HB1.out HA.out
      · have e2 : decide (1000 < fr) = false := decide_eq_false c2
        by_cases c3 : by' < 0
        · have HA := Lib.hid (HNO.out (.inr (.inr (by omega))))
          have e3 : decide (by' < 0) = true := decide_eq_true c3
          go_wp2_with fail
          refine bodyPost_ret (v := .tuple #[.agg #[.int .i64 0, .int .i64 0, .slice none 0 0, .slice none 0 0], .int .i64 1]) (by simp [results, Try.results23, go_sem, g0, g1, g2, g3]) rfl ?_
          exact hbad.out _ HB1.out HA.out
        · have e3 : decide (by' < 0) = false := decide_eq_false c3
          by_cases c4 : 1000 < by'
          · have HA := Lib.hid (HNO.out (.inr (.inr (by omega))))
            have e4 : decide (1000 < by') = true := decide_eq_true c4
            go_wp2_with fail
            refine bodyPost_ret (v := .tuple #[.agg #[.int .i64 0, .int .i64 0, .slice none 0 0, .slice none 0 0], .int .i64 1]) (by simp [results, Try.results23, go_sem, g0, g1, g2, g3]) rfl ?_
            exact hbad.out _ HB1.out HA.out
          · have e4 : decide (1000 < by') = false := decide_eq_false c4
            have HA := Lib.hid (HYES.out (by first | rfl | trivial) (by omega) (by omega))
            have HC := Lib.hid (HLI.out (by first | rfl | trivial) (by omega) (by omega) w1 HB1.out)
            clear HNO HYES HLI hbad
            go_wp2_with fail
            refine HC.out.mono ?_
            rintro e w2 ⟨x1, y1, x2, y2, rfl, hl2, hs2, hb2⟩
            have HB2 := Lib.hid (Below.step HB1.out hb2 (Nat.le_refl _))
            have HR2 := Lib.hid ((hb2.block (w.heap.size + 1) hz1).trans HR1.out)
            have hz2 : w.heap.size + 1 < w2.heap.size := lt_of_block HR2.out
            have HO := Lib.hid (heap_new w2 (.cells #[.int .i64 T.k, .int .i64 T.n, .slice x1 T.ls.len y1, .slice x2 T.ks.len y2] 25))
            have hal : Below w2.heap.size w2 (w2.alloc (.cells #[.int .i64 T.k, .int .i64 T.n, .slice x1 T.ls.len y1, .slice x2 T.ks.len y2] 25)) := (Below.refl _ _).alloc (Nat.le_refl _) _
            have hlw : SlIn w2 (· < w2.heap.size) T.ls x1 y1 := hl2.weak (fun b h => h.2)
            have hsw : TlIn w2 (· < w2.heap.size) T.ks x2 y2 := hs2.weak (fun b h => h.2)
            have HS2 := Lib.hid (r13Shape_any T.k T.n T.ls T.ks x1 x2 y1 y2 w2.heap.size (w2.alloc (.cells #[.int .i64 T.k, .int .i64 T.n, .slice x1 T.ls.len y1, .slice x2 T.ks.len y2] 25)) (hlw.below hal) (hsw.below hal) (by simp))
            have HL2 : Hid (SlIn w2 (fun b => (b < B ∨ w1.heap.size ≤ b) ∧ b < w2.heap.size) T.ls x1 y1 ∧ TlIn w2 (fun b => (b < B ∨ w1.heap.size ≤ b) ∧ b < w2.heap.size) T.ks x2 y2) := Lib.hid ⟨hl2, hs2⟩
            have HAL := Lib.hid hal
            have HFI : Hid (∀ x, shB T.k T.n T.ls T.ks = x → fin1 T = if x = true then (T, 0) else (tZ, 2)) := Lib.hid (fun x hx => by unfold fin1 Tm.sh; rw [hx])
            clear hl2 hs2 hb2 hal hlw hsw HC g0 g1 g2 g3 gz q0 q1 q2 q3
            generalize shB T.k T.n T.ls T.ks = z at HS2 HFI
            have HF := Lib.hid (HA.out.trans (HFI.out z rfl))
            clear HFI HA
            go_wp2_with fail
            refine HS2.out.mono ?_
            rintro e w3 ⟨rfl, hb3⟩
            have HB3 := Lib.hid ((HB2.out.alloc HB2.out.size _).trans (hb3.mono (by have := HB2.out.size; simp; omega)))
            have HR3 := Lib.hid ((hb3.block (w.heap.size + 1) (by simp; omega)).trans ((heap_old _ _ hz2).trans HR2.out))
            obtain ⟨g0, g1, g2, g3⟩ := cells4 HR3.out
            have gz := free_of HR3.out
            have hz3 := lt_of_block HR3.out
            cases z with
            | false =>
              have HA2 : Hid (A = (tZ, 2)) := Lib.hid (by rw [HF.out]; rfl)
              have HE := Lib.hid (RePost.store (R := w.heap.size + 1) (T := tZ) (E := 2) (w := w) (w3 := w3) (P := fun _ => False) (la := none) (lc := 0) (x := none) (c := 0) (fun _ h => h.elim) (SlIn.none _ _) (TlIn.none _ _) HB3.out (by omega))
              clear hb3
              go_wp2_with fail
              refine bodyPost_ret (v := .tuple #[.agg #[.int .i64 0, .int .i64 0, .slice none 0 0, .slice none 0 0], .int .i64 2]) (by simp [results, Try.results23, go_sem, g0, g1, g2, g3]) rfl ?_
              rw [HA2.out]
              exact HE.out
            | true =>
              have HA2 : Hid (A = (T, 0)) := Lib.hid (by rw [HF.out]; rfl)
              have hkeep : ∀ b, (b < B ∨ w1.heap.size ≤ b) ∧ b < w2.heap.size → w3.heap[b]? = w2.heap[b]? := fun b hb => (hb3.block b (by simp; omega)).trans (heap_old _ _ hb.2)
              have hz23 : w2.heap.size + 1 ≤ w3.heap.size := by have := hb3.size; simp at this; omega
              have HE := Lib.hid (RePost.store (R := w.heap.size + 1) (T := T) (E := 0) (w := w) (w3 := w3) (P := fun b => (b < B ∨ w1.heap.size ≤ b) ∧ b < w2.heap.size) (fun b h => ⟨by omega, by omega⟩) (HL2.out.1.keep hkeep) (HL2.out.2.keep hkeep) HB3.out (by omega))
              have t0 := (hb3.block w2.heap.size (by simp)).trans HO.out
              obtain ⟨q0, q1, q2, q3⟩ := cells4 t0
              have hlt2 := lt_of_block t0
              clear hb3 hkeep t0
              go_wp2_with fail
              refine bodyPost_ret (v := .tuple #[.agg #[.int .i64 T.k, .int .i64 T.n, .slice x1 T.ls.len y1, .slice x2 T.ks.len y2], .int .i64 0]) (by simp [results, Try.results23, go_sem, g0, g1, g2, g3]) rfl ?_
              rw [HA2.out]
              exact HE.out
set_option maxRecDepth 100000 in
set_option maxHeartbeats 4000000 in
theorem r13Open_any (t u : Tm) (la ka la' ka' : Option Addr) (lc kc lc' kc' B : Nat) (w : World) (hls : SlIn w (· < B) t.ls la lc) (hsl : TlIn w (· < B) t.ks ka kc) (hls' : SlIn w (· < B) u.ls la' lc') (hsl' : TlIn w (· < B) u.ks ka' kc') (hB : B ≤ w.heap.size) :
    Calls Try.prog 24 #[.agg #[.int .i64 t.k, .int .i64 t.n, .slice la t.ls.len lc, .slice ka t.ks.len kc], .agg #[.int .i64 u.k, .int .i64 u.n, .slice la' u.ls.len lc', .slice ka' u.ks.len kc']] w (RePost (openA t u) w) := by
  obtain ⟨OT, hOT⟩ : ∃ o : Obj, o = .cells #[.int .i64 t.k, .int .i64 t.n, .slice la t.ls.len lc, .slice ka t.ks.len kc] 25 (0, 0) := ⟨_, rfl⟩
  obtain ⟨OU, hOU⟩ : ∃ o : Obj, o = .cells #[.int .i64 u.k, .int .i64 u.n, .slice la' u.ls.len lc', .slice ka' u.ks.len kc'] 25 (0, 0) := ⟨_, rfl⟩
  obtain ⟨OZ, hOZ⟩ : ∃ o : Obj, o = .cells #[.int .i64 0, .int .i64 0, .slice none 0 0, .slice none 0 0] 25 (0, 0) := ⟨_, rfl⟩
  have hb : Below w.heap.size w (((w.alloc OT).alloc OU).alloc OZ) := (((Below.refl _ _).alloc (Nat.le_refl _) _).alloc (by simp) _).alloc (by simp; omega) _
  have hT0 : (((w.alloc OT).alloc OU).alloc OZ).heap[w.heap.size]? = some OT := (heap_old _ _ (by simp; omega)).trans ((heap_old _ _ (by simp)).trans (heap_new _ _))
  have hU0 : (((w.alloc OT).alloc OU).alloc OZ).heap[w.heap.size + 1]? = some OU := (heap_old _ _ (by simp)).trans (heap_second _ _ _)
  have hZ0 : (((w.alloc OT).alloc OU).alloc OZ).heap[w.heap.size + 1 + 1]? = some OZ := by have := heap_second (w.alloc OT) OU OZ; simpa using this
  subst hOT hOU hOZ
  have HB := Lib.hid hb
  have HT0 := Lib.hid hT0
  have HU0 := Lib.hid hU0
  have HZ0 := Lib.hid hZ0
  have HS1 : Hid (∀ W : World, Below w.heap.size w W → Calls Try.prog 26 #[.agg #[.int .i64 t.k, .int .i64 t.n, .slice la t.ls.len lc, .slice ka t.ks.len kc]] W fun e w' => e = .returned (.bool t.sh) ∧ Below W.heap.size W w') := Lib.hid (by
    intro W h
    exact r13Shape_any t.k t.n t.ls t.ks la ka lc kc B W (hls.below (h.mono hB)) (hsl.below (h.mono hB)) (Nat.le_trans hB h.size))
  have HS2 : Hid (∀ W : World, Below w.heap.size w W → Calls Try.prog 26 #[.agg #[.int .i64 u.k, .int .i64 u.n, .slice la' u.ls.len lc', .slice ka' u.ks.len kc']] W fun e w' => e = .returned (.bool u.sh) ∧ Below W.heap.size W w') := Lib.hid (by
    intro W h
    exact r13Shape_any u.k u.n u.ls u.ks la' ka' lc' kc' B W (hls'.below (h.mono hB)) (hsl'.below (h.mono hB)) (Nat.le_trans hB h.size))
  have HOP : Hid (t.sh = true → u.sh = true → ∀ (W : World), Below w.heap.size w W → Calls Try.prog 43 #[.agg #[.int .i64 t.k, .int .i64 t.n, .slice la t.ls.len lc, .slice ka t.ks.len kc], .int .i64 0, .agg #[.int .i64 u.k, .int .i64 u.n, .slice la' u.ls.len lc', .slice ka' u.ks.len kc']] W (TmPost B (rep1 (gO u) t.k t.n t.ls t.ks 0) W)) := Lib.hid (by
    intro h1 h2 W h
    rw [← op1_rep (wf_of_sh h2) (wf_of_sh h1)]
    exact r13open_any u (wf_of_sh h2) (sh_small h2).1 (t.ks.size + 1) t.ks (Nat.lt_succ_self _) (sh_small h1).1 t.k t.n 0 t.ls la ka la' ka' lc kc lc' kc' B W (wf_of_sh h1) (by omega) (by have := (sh_small h1).1; omega) (hls.below (h.mono hB)) (hsl.below (h.mono hB)) (hls'.below (h.mono hB)) (hsl'.below (h.mono hB)) (Nat.le_trans hB h.size))
  have HNO : Hid (t.sh = false ∨ u.sh = false → openA t u = (tZ, 1)) := Lib.hid openA_no
  have HYES : Hid (t.sh = true → u.sh = true → openA t u = fin1 (rep1 (gO u) t.k t.n t.ls t.ks 0)) := Lib.hid openA_yes
  generalize t.sh = x at HS1 HOP HNO HYES
  generalize u.sh = y at HS2 HOP HNO HYES
  generalize rep1 (gO u) t.k t.n t.ls t.ks 0 = T at HOP HYES
  generalize openA t u = A at HNO HYES
  clear hls hsl hls' hsl' hb hT0 hU0 hZ0
  have hbad : Hid (∀ w3 : World, Below w.heap.size w w3 → A = (tZ, 1) → RePost A w (.returned (.tuple #[.agg #[.int .i64 0, .int .i64 0, .slice none 0 0, .slice none 0 0], .int .i64 1])) ((((w3.setCell ⟨w.heap.size + 1 + 1, 0, none⟩ (.int .i64 0)).setCell ⟨w.heap.size + 1 + 1, 1, none⟩ (.int .i64 0)).setCell ⟨w.heap.size + 1 + 1, 2, none⟩ (.slice none 0 0)).setCell ⟨w.heap.size + 1 + 1, 3, none⟩ (.slice none 0 0))) := Lib.hid (by
    rintro w3 h rfl
    exact RePost.store (R := w.heap.size + 1 + 1) (T := tZ) (E := 1) (w := w) (w3 := w3) (P := fun _ => False) (la := none) (lc := 0) (x := none) (c := 0) (fun _ h => h.elim) (SlIn.none _ _) (TlIn.none _ _) h (by omega))
  go_enter Try.func24, Try.ntmps24
  go_wp2_with fail
  refine (HS1.out _ HB.out).mono ?_
  rintro e w1 ⟨rfl, hb1⟩
  have HB1 := Lib.hid (Below.step HB.out hb1 (Nat.le_refl _))
  have HZ1 := Lib.hid ((hb1.block (w.heap.size + 1 + 1) (by simp)).trans HZ0.out)
  have HU1 := Lib.hid ((hb1.block (w.heap.size + 1) (by simp)).trans HU0.out)
  have HT1 := Lib.hid ((hb1.block w.heap.size (by simp; omega)).trans HT0.out)
  obtain ⟨g0, g1, g2, g3⟩ := cells4 HZ1.out
  have gz := free_of HZ1.out
  have hz1 := lt_of_block HZ1.out
  obtain ⟨q0, q1, q2, q3⟩ := cells4 HU1.out
  clear hb1
  cases x with
  | false =>
    have HA := Lib.hid (HNO.out (.inl rfl))
    go_wp2_with fail
    refine bodyPost_ret (v := .tuple #[.agg #[.int .i64 0, .int .i64 0, .slice none 0 0, .slice none 0 0], .int .i64 1]) (by simp [results, Try.results24, go_sem, g0, g1, g2, g3]) rfl ?_
    exact hbad.out _ HB1.out HA.out
  | true =>
    go_wp2_with fail
    refine (HS2.out _ HB1.out).mono ?_
    rintro e w2 ⟨rfl, hb2⟩
    have HB2 := Lib.hid (Below.step HB1.out hb2 (Nat.le_refl _))
    have HZ2 := Lib.hid ((hb2.block (w.heap.size + 1 + 1) hz1).trans HZ1.out)
    have HU2 := Lib.hid ((hb2.block (w.heap.size + 1) (by omega)).trans HU1.out)
    have HT2 := Lib.hid ((hb2.block w.heap.size (by omega)).trans HT1.out)
    clear g0 g1 g2 g3 gz q0 q1 q2 q3 hb2
    obtain ⟨g0, g1, g2, g3⟩ := cells4 HZ2.out
    have gz := free_of HZ2.out
    have hz2 := lt_of_block HZ2.out
    obtain ⟨q0, q1, q2, q3⟩ := cells4 HU2.out
    obtain ⟨p0, p1, p2, p3⟩ := cells4 HT2.out
    cases y with
    | false =>
      have HA := Lib.hid (HNO.out (.inr rfl))
      go_wp2_with fail
      refine bodyPost_ret (v := .tuple #[.agg #[.int .i64 0, .int .i64 0, .slice none 0 0, .slice none 0 0], .int .i64 1]) (by simp [results, Try.results24, go_sem, g0, g1, g2, g3]) rfl ?_
      exact hbad.out _ HB2.out HA.out
    | true =>
      have HA := Lib.hid (HYES.out (by first | rfl | trivial) (by first | rfl | trivial))
      have HC := Lib.hid (HOP.out (by first | rfl | trivial) (by first | rfl | trivial) w2 HB2.out)
      clear HNO HYES HOP hbad HS1 HS2
      go_wp2_with fail
      refine HC.out.mono ?_
      rintro e w3 ⟨x1, y1, x2, y2, rfl, hl2, hs2, hb3⟩
      have HB3 := Lib.hid (Below.step HB2.out hb3 (Nat.le_refl _))
      have HZ3 := Lib.hid ((hb3.block (w.heap.size + 1 + 1) hz2).trans HZ2.out)
      have hz3 := lt_of_block HZ3.out
      have HO := Lib.hid (heap_new w3 (.cells #[.int .i64 T.k, .int .i64 T.n, .slice x1 T.ls.len y1, .slice x2 T.ks.len y2] 25))
      have hal : Below w3.heap.size w3 (w3.alloc (.cells #[.int .i64 T.k, .int .i64 T.n, .slice x1 T.ls.len y1, .slice x2 T.ks.len y2] 25)) := (Below.refl _ _).alloc (Nat.le_refl _) _
      have hlw : SlIn w3 (· < w3.heap.size) T.ls x1 y1 := hl2.weak (fun b h => h.2)
      have hsw : TlIn w3 (· < w3.heap.size) T.ks x2 y2 := hs2.weak (fun b h => h.2)
      have HSH := Lib.hid (r13Shape_any T.k T.n T.ls T.ks x1 x2 y1 y2 w3.heap.size (w3.alloc (.cells #[.int .i64 T.k, .int .i64 T.n, .slice x1 T.ls.len y1, .slice x2 T.ks.len y2] 25)) (hlw.below hal) (hsw.below hal) (by simp))
      have HL2 : Hid (SlIn w3 (fun b => (b < B ∨ w2.heap.size ≤ b) ∧ b < w3.heap.size) T.ls x1 y1 ∧ TlIn w3 (fun b => (b < B ∨ w2.heap.size ≤ b) ∧ b < w3.heap.size) T.ks x2 y2) := Lib.hid ⟨hl2, hs2⟩
      have HFI : Hid (∀ x, shB T.k T.n T.ls T.ks = x → fin1 T = if x = true then (T, 0) else (tZ, 2)) := Lib.hid (fun x hx => by unfold fin1 Tm.sh; rw [hx])
      clear hl2 hs2 hb3 hal hlw hsw HC g0 g1 g2 g3 gz q0 q1 q2 q3 p0 p1 p2 p3
      generalize shB T.k T.n T.ls T.ks = z at HSH HFI
      have HF := Lib.hid (HA.out.trans (HFI.out z rfl))
      clear HFI HA
      go_wp2_with fail
      refine HSH.out.mono ?_
      rintro e w4 ⟨rfl, hb4⟩
      have HB4 := Lib.hid ((HB3.out.alloc HB3.out.size _).trans (hb4.mono (by have := HB3.out.size; simp; omega)))
      have HZ4 := Lib.hid ((hb4.block (w.heap.size + 1 + 1) (by simp; omega)).trans ((heap_old _ _ hz3).trans HZ3.out))
      obtain ⟨g0, g1, g2, g3⟩ := cells4 HZ4.out
      have gz := free_of HZ4.out
      have hz4 := lt_of_block HZ4.out
      cases z with
      | false =>
        have HA2 : Hid (A = (tZ, 2)) := Lib.hid (by rw [HF.out]; rfl)
        have HE := Lib.hid (RePost.store (R := w.heap.size + 1 + 1) (T := tZ) (E := 2) (w := w) (w3 := w4) (P := fun _ => False) (la := none) (lc := 0) (x := none) (c := 0) (fun _ h => h.elim) (SlIn.none _ _) (TlIn.none _ _) HB4.out (by omega))
        clear hb4
        go_wp2_with fail
        refine bodyPost_ret (v := .tuple #[.agg #[.int .i64 0, .int .i64 0, .slice none 0 0, .slice none 0 0], .int .i64 2]) (by simp [results, Try.results24, go_sem, g0, g1, g2, g3]) rfl ?_
        rw [HA2.out]
        exact HE.out
      | true =>
        have HA2 : Hid (A = (T, 0)) := Lib.hid (by rw [HF.out]; rfl)
        have hkeep : ∀ b, (b < B ∨ w2.heap.size ≤ b) ∧ b < w3.heap.size → w4.heap[b]? = w3.heap[b]? := fun b hb => (hb4.block b (by simp; omega)).trans (heap_old _ _ hb.2)
        have hz34 : w3.heap.size + 1 ≤ w4.heap.size := by have := hb4.size; simp at this; omega
        have HE := Lib.hid (RePost.store (R := w.heap.size + 1 + 1) (T := T) (E := 0) (w := w) (w3 := w4) (P := fun b => (b < B ∨ w2.heap.size ≤ b) ∧ b < w3.heap.size) (fun b h => ⟨by omega, by omega⟩) (HL2.out.1.keep hkeep) (HL2.out.2.keep hkeep) HB4.out (by omega))
        have t0 := (hb4.block w3.heap.size (by simp)).trans HO.out
        obtain ⟨q0, q1, q2, q3⟩ := cells4 t0
        have hlt2 := lt_of_block t0
        clear hb4 hkeep t0
        go_wp2_with fail
        refine bodyPost_ret (v := .tuple #[.agg #[.int .i64 T.k, .int .i64 T.n, .slice x1 T.ls.len y1, .slice x2 T.ks.len y2], .int .i64 0]) (by simp [results, Try.results24, go_sem, g0, g1, g2, g3]) rfl ?_
        rw [HA2.out]
        exact HE.out
end Go.Proofs.Ytokckghedpdfiaa
