/- The contract of the document's own open. No condition but that the terms are well-formed and lie in memory. -/
import Derived.Test.YtokckghedpdfiaaTrlift
namespace Go.Proofs.Ytokckghedpdfiaa
open Go.RowKit

theorem rqHeld2 {W w' : World} {N b i : Nat} {x0 x3 y0 y1 y2 y3 z0 z1 z2 z3 : Value} (h : ∀ q, q ≤ N + 1 → w'.heap[q]? = W.heap[q]?) (hb : b ≤ N) (q0 : W.cell? ⟨N, 0, none⟩ = some x0) (q3 : W.cell? ⟨N, 3, none⟩ = some x3) (e0 : W.cell? ⟨b, i, none⟩ = some y0) (e1 : W.cell? ⟨b, i + 1, none⟩ = some y1) (e2 : W.cell? ⟨b, i + 2, none⟩ = some y2) (e3 : W.cell? ⟨b, i + 3, none⟩ = some y3)
    (d0 : W.cell? ⟨N + 1, 0, none⟩ = some z0) (d1 : W.cell? ⟨N + 1, 1, none⟩ = some z1) (d2 : W.cell? ⟨N + 1, 2, none⟩ = some z2) (d3 : W.cell? ⟨N + 1, 3, none⟩ = some z3) :
    w'.cell? ⟨N, 0, none⟩ = some x0 ∧ w'.cell? ⟨N, 3, none⟩ = some x3 ∧ w'.cell? ⟨b, i, none⟩ = some y0 ∧ w'.cell? ⟨b, i + 1, none⟩ = some y1 ∧ w'.cell? ⟨b, i + 2, none⟩ = some y2 ∧ w'.cell? ⟨b, i + 3, none⟩ = some y3 ∧
    w'.cell? ⟨N + 1, 0, none⟩ = some z0 ∧ w'.cell? ⟨N + 1, 1, none⟩ = some z1 ∧ w'.cell? ⟨N + 1, 2, none⟩ = some z2 ∧ w'.cell? ⟨N + 1, 3, none⟩ = some z3 := by
  have g : ∀ q, q ≤ N → w'.heap[q]? = W.heap[q]? := fun q hq => h q (by omega)
  have k := h (N + 1) (Nat.le_refl _)
  exact ⟨(World.cell?_of_block (a := ⟨N, 0, none⟩) (g _ (Nat.le_refl _))).trans q0, (World.cell?_of_block (a := ⟨N, 3, none⟩) (g _ (Nat.le_refl _))).trans q3, (World.cell?_of_block (a := ⟨b, i, none⟩) (g _ hb)).trans e0, (World.cell?_of_block (a := ⟨b, i + 1, none⟩) (g _ hb)).trans e1, (World.cell?_of_block (a := ⟨b, i + 2, none⟩) (g _ hb)).trans e2, (World.cell?_of_block (a := ⟨b, i + 3, none⟩) (g _ hb)).trans e3,
    (World.cell?_of_block (a := ⟨N + 1, 0, none⟩) k).trans d0, (World.cell?_of_block (a := ⟨N + 1, 1, none⟩) k).trans d1, (World.cell?_of_block (a := ⟨N + 1, 2, none⟩) k).trans d2, (World.cell?_of_block (a := ⟨N + 1, 3, none⟩) k).trans d3⟩

set_option maxRecDepth 100000 in
set_option maxHeartbeats 8000000 in
theorem r13open_any (U : Tm) (hU : wf1 1030 U.k U.n U.ls U.ks) (hUs : U.ks.size ≤ 1000) (s : Nat) : ∀ (f : Ft), f.size < s → f.size ≤ 1000 → ∀ (k n at' : Int) (ls : Fo) (la ka ua va : Option Addr) (lc kc uc vc B : Nat) (w : World), wf1 1030 k n ls f → 0 ≤ at' → at' + f.size ≤ 2000 → SlIn w (· < B) ls la lc → TlIn w (· < B) f ka kc → SlIn w (· < B) U.ls ua uc → TlIn w (· < B) U.ks va vc → B ≤ w.heap.size →
    Calls Try.prog 43 #[.agg #[.int .i64 k, .int .i64 n, .slice la ls.len lc, .slice ka f.len kc], .int .i64 at', .agg #[.int .i64 U.k, .int .i64 U.n, .slice ua U.ls.len uc, .slice va U.ks.len vc]] w (TmPost B (op1 U k n ls f at') w) := by
  induction s with
  | zero => intro f hs; omega
  | succ s ih =>
    intro f hs hsz k n at' ls la ka ua va lc kc uc vc B w hwf hf0 hf1 hls hsl hul hvl hB
    have IH := Lib.hid ih
    clear ih
    have hlen := hsl.len
    by_cases hk : k = 1
    · subst hk
      obtain ⟨rfl, rfl, hn0, hn1⟩ := wf1_leaf hwf
      have HLS := Lib.hid hls
      by_cases hc : n = at'
      · have e : op1 U 1 n .nil .nil at' = lf1 at' U.k U.n U.ls U.ks 0 := by unfold op1; rw [if_pos ⟨rfl, hc⟩]
        rw [e]
        have hb : Below w.heap.size w (((w.alloc (.cells #[.int .i64 1, .int .i64 n, .slice la 0 lc, .slice ka 0 kc] 25)).alloc (.cells #[.int .i64 U.k, .int .i64 U.n, .slice ua U.ls.len uc, .slice va U.ks.len vc] 25)).alloc (.cells #[.int .i64 0, .int .i64 0, .slice none 0 0, .slice none 0 0] 25)) := (((Below.refl _ _).alloc (Nat.le_refl _) _).alloc (by simp) _).alloc (by simp; omega) _
        have HC := Lib.hid (r13lift_any at' hf0 (by simp [Ft.size] at hf1; omega) (U.ks.size + 1) U.ks (Nat.lt_succ_self _) hUs U.k U.n 0 U.ls ua va uc vc B _ hU (by omega) (by omega) (hul.below (hb.mono hB)) (hvl.below (hb.mono hB)) (Nat.le_trans hB hb.size))
        have HR0 : Hid ((((w.alloc (.cells #[.int .i64 1, .int .i64 n, .slice la 0 lc, .slice ka 0 kc] 25)).alloc (.cells #[.int .i64 U.k, .int .i64 U.n, .slice ua U.ls.len uc, .slice va U.ks.len vc] 25)).alloc (.cells #[.int .i64 0, .int .i64 0, .slice none 0 0, .slice none 0 0] 25)).heap[w.heap.size + 1 + 1]? = some (.cells #[.int .i64 0, .int .i64 0, .slice none 0 0, .slice none 0 0] 25 (0, 0))) := Lib.hid (by
          have := heap_second (w.alloc (.cells #[.int .i64 1, .int .i64 n, .slice la 0 lc, .slice ka 0 kc] 25)) (.cells #[.int .i64 U.k, .int .i64 U.n, .slice ua U.ls.len uc, .slice va U.ks.len vc] 25) (.cells #[.int .i64 0, .int .i64 0, .slice none 0 0, .slice none 0 0] 25); simpa using this)
        have HB := Lib.hid hb
        have d1 : (n == at') = true := beq_iff_eq.2 hc
        generalize lf1 at' U.k U.n U.ls U.ks 0 = T at HC
        clear e hb hls hsl hul hvl hwf IH hc
        simp only [Ft.len, Fo.len]
        go_enter Try.func43, Try.ntmps43
        go_wp2_with fail
        refine HC.out.mono ?_
        rintro e w1 ⟨x1, y1, x2, y2, rfl, hl1, hs1, hb2⟩
        have hR1 := (hb2.block (w.heap.size + 1 + 1) (by simp)).trans HR0.out
        obtain ⟨g0, g1, g2, g3⟩ := cells4 hR1
        have gz := free_of hR1
        have hlt := lt_of_block hR1
        have HE := Lib.hid (TmPost.store (B := B) (w := w) (R := w.heap.size + 1 + 1) (T := T) hl1 hs1 (Below.step HB.out hb2 (Nat.le_refl _)) hB (by omega) (by simp))
        clear hl1 hs1 hb2 hR1
        go_wp2_with fail
        refine bodyPost_ret (v := .agg #[.int .i64 T.k, .int .i64 T.n, .slice x1 T.ls.len y1, .slice x2 T.ks.len y2]) (by simp [results, Try.results43, go_sem, g0, g1, g2, g3]) rfl ?_
        exact HE.out
      · have d1 : (n == at') = false := beq_eq_false_iff_ne.2 hc
        by_cases hd : at' < n
        · have e : op1 U 1 n .nil .nil at' = ⟨1, n - 1, .nil, .nil⟩ := by unfold op1; rw [if_neg (fun h => hc h.2), if_pos ⟨rfl, hd⟩]; rfl
          rw [e]
          obtain ⟨q0, q1, q2, q3⟩ := cells4 ((heap_old ((((w.alloc (.cells #[.int .i64 1, .int .i64 n, .slice la 0 lc, .slice ka 0 kc] 25)).alloc (.cells #[.int .i64 U.k, .int .i64 U.n, .slice ua U.ls.len uc, .slice va U.ks.len vc] 25)).alloc (.cells #[.int .i64 0, .int .i64 0, .slice none 0 0, .slice none 0 0] 25))) (.cells #[.int .i64 1, .int .i64 (n - 1), .slice la 0 lc, .slice none 0 0] 25) (by simp; omega : w.heap.size < _)).trans ((heap_old _ _ (by simp; omega)).trans ((heap_old _ _ (by simp)).trans (heap_new _ _))))
          clear e hls hsl hul hvl hwf IH hc
          simp only [Ft.len, Fo.len]
          go_enter Try.func43, Try.ntmps43
          go_wp2_with fail
          go_loopw [8] (fun i wr => i = .int .i64 0 ∧ wr = ((((w.alloc (.cells #[.int .i64 1, .int .i64 n, .slice la 0 lc, .slice ka 0 kc] 25)).alloc (.cells #[.int .i64 U.k, .int .i64 U.n, .slice ua U.ls.len uc, .slice va U.ks.len vc] 25)).alloc (.cells #[.int .i64 0, .int .i64 0, .slice none 0 0, .slice none 0 0] 25)).alloc (.cells #[.int .i64 1, .int .i64 (n - 1), .slice la 0 lc, .slice none 0 0] 25))) (fun _ _ => 0)
          case atStart => exact ⟨rfl, rfl⟩
          case round =>
            obtain ⟨rfl, rfl⟩ := hrel
            go_wp2_with fail
            refine bodyPost_ret (v := .agg #[.int .i64 1, .int .i64 (n - 1), .slice la 0 lc, .slice none 0 0]) (by simp [results, Try.results43, go_sem]) rfl ?_
            exact ⟨la, lc, none, 0, rfl, ⟨HLS.out.1, HLS.out.2.1, HLS.out.2.2.1, fun h => by simp [Fo.len] at h⟩, TlIn.none _ _, ((((Below.refl _ _).alloc (Nat.le_refl _) _).alloc (by simp) _).alloc (by simp; omega) _).alloc (by simp; omega) _⟩
        · have e : op1 U 1 n .nil .nil at' = ⟨1, n, .nil, .nil⟩ := by unfold op1; rw [if_neg (fun h => hc h.2), if_neg (fun h => hd h.2)]; rfl
          rw [e]
          obtain ⟨q0, q1, q2, q3⟩ := cells4 ((heap_old ((((w.alloc (.cells #[.int .i64 1, .int .i64 n, .slice la 0 lc, .slice ka 0 kc] 25)).alloc (.cells #[.int .i64 U.k, .int .i64 U.n, .slice ua U.ls.len uc, .slice va U.ks.len vc] 25)).alloc (.cells #[.int .i64 0, .int .i64 0, .slice none 0 0, .slice none 0 0] 25))) (.cells #[.int .i64 1, .int .i64 n, .slice la 0 lc, .slice none 0 0] 25) (by simp; omega : w.heap.size < _)).trans ((heap_old _ _ (by simp; omega)).trans ((heap_old _ _ (by simp)).trans (heap_new _ _))))
          have d2 : decide (at' < n) = false := decide_eq_false hd
          clear e hls hsl hul hvl hwf IH hc
          simp only [Ft.len, Fo.len]
          go_enter Try.func43, Try.ntmps43
          go_wp2_with fail
          go_loopw [8] (fun i wr => i = .int .i64 0 ∧ wr = ((((w.alloc (.cells #[.int .i64 1, .int .i64 n, .slice la 0 lc, .slice ka 0 kc] 25)).alloc (.cells #[.int .i64 U.k, .int .i64 U.n, .slice ua U.ls.len uc, .slice va U.ks.len vc] 25)).alloc (.cells #[.int .i64 0, .int .i64 0, .slice none 0 0, .slice none 0 0] 25)).alloc (.cells #[.int .i64 1, .int .i64 n, .slice la 0 lc, .slice none 0 0] 25))) (fun _ _ => 0)
          case atStart => exact ⟨rfl, rfl⟩
          case round =>
            obtain ⟨rfl, rfl⟩ := hrel
            go_wp2_with fail
            refine bodyPost_ret (v := .agg #[.int .i64 1, .int .i64 n, .slice la 0 lc, .slice none 0 0]) (by simp [results, Try.results43, go_sem]) rfl ?_
            exact ⟨la, lc, none, 0, rfl, ⟨HLS.out.1, HLS.out.2.1, HLS.out.2.2.1, fun h => by simp [Fo.len] at h⟩, TlIn.none _ _, ((((Below.refl _ _).alloc (Nat.le_refl _) _).alloc (by simp) _).alloc (by simp; omega) _).alloc (by simp; omega) _⟩
    · have hk' : (k == 1) = false := beq_eq_false_iff_ne.2 hk
      have e : op1 U k n ls f at' = ⟨k, n, ls, opF U f k 0 at'⟩ := by unfold op1; rw [if_neg (fun h => hk h.1), if_neg (fun h => hk h.1)]
      rw [e]
      have HW := Lib.hid hwf.2.2
      have HLS := Lib.hid hls
      have HSL := Lib.hid hsl
      have HUL := Lib.hid hul
      have HVL := Lib.hid hvl
      have HS := Lib.hid (TrQ.start2 (k := k) (n := n) (ls := ls) (la := la) (lc := lc) (.cells #[.int .i64 k, .int .i64 n, .slice la ls.len lc, .slice ka f.len kc] 25) (.cells #[.int .i64 U.k, .int .i64 U.n, .slice ua U.ls.len uc, .slice va U.ks.len vc] 25) hB)
      have HBX : Hid (((((w.alloc (.cells #[.int .i64 k, .int .i64 n, .slice la ls.len lc, .slice ka f.len kc] 25)).alloc (.cells #[.int .i64 U.k, .int .i64 U.n, .slice ua U.ls.len uc, .slice va U.ks.len vc] 25)).alloc (.cells #[.int .i64 0, .int .i64 0, .slice none 0 0, .slice none 0 0] 25)).alloc (.cells #[.int .i64 k, .int .i64 n, .slice la ls.len lc, .slice none 0 0] 25)).heap[w.heap.size]? = some (.cells #[.int .i64 k, .int .i64 n, .slice la ls.len lc, .slice ka f.len kc] 25 (0, 0)) ∧
          ((((w.alloc (.cells #[.int .i64 k, .int .i64 n, .slice la ls.len lc, .slice ka f.len kc] 25)).alloc (.cells #[.int .i64 U.k, .int .i64 U.n, .slice ua U.ls.len uc, .slice va U.ks.len vc] 25)).alloc (.cells #[.int .i64 0, .int .i64 0, .slice none 0 0, .slice none 0 0] 25)).alloc (.cells #[.int .i64 k, .int .i64 n, .slice la ls.len lc, .slice none 0 0] 25)).heap[w.heap.size + 1]? = some (.cells #[.int .i64 U.k, .int .i64 U.n, .slice ua U.ls.len uc, .slice va U.ks.len vc] 25 (0, 0))) := Lib.hid ⟨(heap_old _ _ (by simp; omega)).trans ((heap_old _ _ (by simp; omega)).trans ((heap_old _ _ (by simp)).trans (heap_new _ _))), (heap_old _ _ (by simp)).trans ((heap_old _ _ (by simp)).trans (heap_second _ _ _))⟩
      clear e hk hwf hls hsl hul hvl
      go_enter Try.func43, Try.ntmps43
      go_wp2_with fail
      go_loopw [8] (fun jv wr => ∃ (j : Nat) (H rest : Ft) (v : Value), jv = .int .i64 j ∧ Hid (f = H.app rest) ∧ Hid (H.len = j) ∧ Hid (TrQ w (w.heap.size + 1 + 1) (w.heap.size + 1 + 1 + 1) B k n ls la lc (opF U H k 0 at') v wr) ∧ Hid (wr.heap[w.heap.size]? = some (.cells #[.int .i64 k, .int .i64 n, .slice la ls.len lc, .slice ka f.len kc] 25 (0, 0)) ∧ wr.heap[w.heap.size + 1]? = some (.cells #[.int .i64 U.k, .int .i64 U.n, .slice ua U.ls.len uc, .slice va U.ks.len vc] 25 (0, 0)))) (fun jv _ => f.len - (intOf jv).toNat)
      case atStart => exact ⟨0, .nil, f, _, rfl, Lib.hid rfl, Lib.hid rfl, HS, HBX⟩
      case round =>
        obtain ⟨j, H, rest, v, rfl, hf, hj, hR, hbx⟩ := hrel
        obtain ⟨⟨g0, g1, g2, g3, gz⟩, ⟨q0, q1, q2, q3, qz⟩, hob, hwr⟩ := hR.out.facts
        obtain ⟨c0, _, _, c3⟩ := cells4 hbx.out.1
        obtain ⟨d0, d1, d2, d3⟩ := cells4 hbx.out.2
        cases rest with
        | nil =>
          have hjl : ¬ (j : Int) < (f.len : Int) := by rw [hf.out, Ft.app_nil, hj.out]; omega
          have dj : decide ((j : Int) < (f.len : Int)) = false := by simpa using hjl
          obtain ⟨x, c, rfl, hE⟩ := hR.out.done HLS.out
          have HE := Lib.hid hE
          have HF : Hid (f = H) := Lib.hid (by rw [hf.out, Ft.app_nil])
          clear hE hR hf
          go_wp2_with fail
          refine bodyPost_ret (v := .agg #[.int .i64 k, .int .i64 n, .slice la ls.len lc, .slice x (opF U H k 0 at').len c]) (by simp [results, Try.results43, go_sem, g0, g1, g2, g3]) rfl ?_
          rw [HF.out]
          exact HE.out
        | cons k' n' ls' ks r' =>
          have hjn : j < f.len := by rw [hf.out, Ft.app_len, hj.out]; simp [Ft.len]
          have hjl : (j : Int) < (f.len : Int) := by omega
          obtain ⟨bq, o, rfl, hbB, hf0'⟩ := HSL.out.some (by omega)
          have hfa : FtIn w (· < B) (.cons k' n' ls' ks r') bq (o + j * 4) := by
            have h1 := hf0'
            rw [hf.out] at h1
            rw [← hj.out]
            exact FtIn.behind H _ bq o h1
          obtain ⟨e0, e1, ⟨la', lc', e2, hls'⟩, ⟨ka', kc', e3, hsl'⟩, _⟩ := (hfa.below (hwr.mono hB) _ _ _ hbB).first
          have hfs : f.size = H.size + (ks.size + r'.size + 1) := by rw [hf.out, Ft.app_size]; rfl
          have hks : ks.size < s := by omega
          have hwk' : wf1 1030 k' n' ls' ks := by
            have h1 := HW.out
            rw [hf.out, wfF_app] at h1
            exact (wfF_parts h1.2).1
          have hbi := bindK_le k j
          have hBr : B ≤ wr.heap.size := Nat.le_trans hB hwr.size
          have hbk : Below wr.heap.size wr wr.drew := (Below.refl _ _).drew
          have HC : Hid (Calls Try.prog 43 #[.agg #[.int .i64 k', .int .i64 n', .slice la' ls'.len lc', .slice ka' ks.len kc'], .int .i64 (at' + bindK k j), .agg #[.int .i64 U.k, .int .i64 U.n, .slice ua U.ls.len uc, .slice va U.ks.len vc]] wr.drew (TmPost B (op1 U k' n' ls' ks (at' + bindK k j)) wr.drew)) :=
            Lib.hid (IH.out ks hks (by omega) k' n' (at' + bindK k j) ls' la' ka' ua va lc' kc' uc vc B _ hwk' (by omega) (by omega) (hls'.below (hbk.mono hBr)) (hsl'.below (hbk.mono hBr)) (HUL.out.below ((hwr.mono hB).trans (hbk.mono hBr))) (HVL.out.below ((hwr.mono hB).trans (hbk.mono hBr))) (Nat.le_trans hBr hbk.size))
          have hGl : (opF U H k 0 at').len = j := by rw [opF_len, hj.out]
          have hT' : opF U (H.app (.cons k' n' ls' ks .nil)) k 0 at' = (opF U H k 0 at').app (op1 U k' n' ls' ks (at' + bindK k j)).one := by
            rw [opF_app, opF_cons, hj.out, Nat.zero_add]; rfl
          have HAP : Hid (∀ (e : Ending) (w2 : World), TmPost B (op1 U k' n' ls' ks (at' + bindK k j)) wr.drew e w2 → ∃ (T : Tm) (x1 : Option Addr) (y1 : Nat) (x2 : Option Addr) (y2 : Nat), e = .returned (.agg #[.int .i64 T.k, .int .i64 T.n, .slice x1 T.ls.len y1, .slice x2 T.ks.len y2]) ∧
              w2.cell? ⟨w.heap.size + 1 + 1 + 1, 3, none⟩ = some v ∧ w.heap.size + 1 + 1 + 1 < w2.heap.size ∧ (w2.alloc (.cells #[.int .i64 T.k, .int .i64 T.n, .slice x1 T.ls.len y1, .slice x2 T.ks.len y2] 25)).cell? ⟨w.heap.size + 1 + 1 + 1, 3, none⟩ = some v ∧
              Hid (∀ q, q ≤ w.heap.size + 1 → w2.heap[q]? = wr.heap[q]?) ∧ Hid (∀ q, q ≤ w.heap.size + 1 → (w2.alloc (.cells #[.int .i64 T.k, .int .i64 T.n, .slice x1 T.ls.len y1, .slice x2 T.ks.len y2] 25)).heap[q]? = wr.heap[q]?) ∧
              ∃ g' cap' w3, Hid ((Builtin.append_ #[23, 23] 23 #[v, .slice (some ⟨w2.heap.size, 0, none⟩) 1 1]).run Try.prog (w2.alloc (.cells #[.int .i64 T.k, .int .i64 T.n, .slice x1 T.ls.len y1, .slice x2 T.ks.len y2] 25)) = .ok (.slice (some ⟨g', 0, none⟩) (j + 1) cap') w3) ∧
                w3.cell? ⟨w.heap.size + 1 + 1 + 1, 3, none⟩ = some v ∧ (∀ o, w3.frozen? ⟨w.heap.size + 1 + 1 + 1, o, none⟩ = false) ∧ Hid (∀ q, q ≤ w.heap.size + 1 → w3.heap[q]? = wr.heap[q]?) ∧
                Hid (TrQ w (w.heap.size + 1 + 1) (w.heap.size + 1 + 1 + 1) B k n ls la lc (opF U (H.app (.cons k' n' ls' ks .nil)) k 0 at') (.slice (some ⟨g', 0, none⟩) (j + 1) cap') (w3.setCell ⟨w.heap.size + 1 + 1 + 1, 3, none⟩ (.slice (some ⟨g', 0, none⟩) (j + 1) cap'))) ∧
                Hid ((w3.setCell ⟨w.heap.size + 1 + 1 + 1, 3, none⟩ (.slice (some ⟨g', 0, none⟩) (j + 1) cap')).heap[w.heap.size]? = some (.cells #[.int .i64 k, .int .i64 n, .slice la ls.len lc, .slice (some ⟨bq, o, none⟩) f.len kc] 25 (0, 0)) ∧ (w3.setCell ⟨w.heap.size + 1 + 1 + 1, 3, none⟩ (.slice (some ⟨g', 0, none⟩) (j + 1) cap')).heap[w.heap.size + 1]? = some (.cells #[.int .i64 U.k, .int .i64 U.n, .slice ua U.ls.len uc, .slice va U.ks.len vc] 25 (0, 0)))) := Lib.hid (by
            rintro e w2 ⟨x1, y1, x2, y2, rfl, t0, t1, t2⟩
            have hG1 : (opF U H k 0 at').len ≤ 1000 := by rw [hGl]; have h1 := Ft.len_le_size f; omega
            have t4 : Below wr.heap.size wr w2 := Below.trans (Below.refl _ _).drew t2
            have hz4 := t4.size
            have hw4 := hwr.size
            obtain ⟨L2, hlb2, g', cap', w3, hrun, L3, Z3, hq, hN⟩ := TrQ.next hR.out hG1 t0 t1 t4
            rw [hGl] at hrun hN
            rw [hT']
            refine ⟨_, x1, y1, x2, y2, rfl, L2, hlb2, (World.cell?_of_block (w := w2) (a := ⟨w.heap.size + 1 + 1 + 1, 3, none⟩) (heap_old w2 _ hlb2)).trans L2, Lib.hid (fun q hq => t4.block q (by omega)), Lib.hid (fun q hq => (heap_old w2 _ (by omega)).trans (t4.block q (by omega))), g', cap', w3, Lib.hid hrun, L3, Z3, Lib.hid (fun q h => hq q (by omega)), Lib.hid hN, Lib.hid ⟨?_, ?_⟩⟩
            · have nq : w.heap.size ≠ w.heap.size + 1 + 1 + 1 := by omega
              rw [Below.heap_setCell _ _ _ _ nq]
              exact (hq _ (by omega)).trans hbx.out.1
            · have nq : w.heap.size + 1 ≠ w.heap.size + 1 + 1 + 1 := by omega
              rw [Below.heap_setCell _ _ _ _ nq]
              exact (hq _ (by omega)).trans hbx.out.2)
          have HSN : Hid (f = (H.app (.cons k' n' ls' ks .nil)).app r') := Lib.hid (by rw [hf.out, Ft.app_assoc]; rfl)
          have HJ := Lib.hid hj.out
          have HW1 : Hid (IntKind.i64.wrap (at' + bindK k j) = at' + bindK k j) := Lib.hid (IntWalk.i64_in _ (by omega))
          have HBI : Hid (∀ W, Calls Try.prog 46 #[.int .i64 k, .int .i64 j] W fun e w' => e = .returned (.int .i64 (bindK k j)) ∧ w' = W) := Lib.hid (r13binds_any k j)
          have hbN : bq ≤ w.heap.size := by omega
          generalize bindK k j = Y at HC HAP HW1 HBI
          generalize op1 U k' n' ls' ks (at' + Y) = TT at HC HAP
          clear hf hR hfa hf0' hGl hT' g0 g1 g2 g3 gz q0 q1 q2 qz hls' hsl' hwk' hbi hfs hbk
          go_wp2_with fail
          refine wp_region_L (fun (w' : World) => w'.cell? ⟨w.heap.size + 1 + 1 + 1, 3, none⟩ = some v ∧ w'.cell? ⟨w.heap.size, 0, none⟩ = some (.int .i64 k) ∧ w'.cell? ⟨w.heap.size, 3, none⟩ = some (.slice (some ⟨bq, o, none⟩) f.len kc) ∧ w'.cell? ⟨bq, o + j * 4, none⟩ = some (.int .i64 k') ∧ w'.cell? ⟨bq, o + j * 4 + 1, none⟩ = some (.int .i64 n') ∧ w'.cell? ⟨bq, o + j * 4 + 2, none⟩ = some (.slice la' ls'.len lc') ∧ w'.cell? ⟨bq, o + j * 4 + 3, none⟩ = some (.slice ka' ks.len kc') ∧ w'.cell? ⟨w.heap.size + 1, 0, none⟩ = some (.int .i64 U.k) ∧ w'.cell? ⟨w.heap.size + 1, 1, none⟩ = some (.int .i64 U.n) ∧ w'.cell? ⟨w.heap.size + 1, 2, none⟩ = some (.slice ua U.ls.len uc) ∧ w'.cell? ⟨w.heap.size + 1, 3, none⟩ = some (.slice va U.ks.len vc)) 18 (by kernel_rfl) ?_
          have hH := (show (fun (w' : World) => w'.cell? ⟨w.heap.size + 1 + 1 + 1, 3, none⟩ = some v ∧ w'.cell? ⟨w.heap.size, 0, none⟩ = some (.int .i64 k) ∧ w'.cell? ⟨w.heap.size, 3, none⟩ = some (.slice (some ⟨bq, o, none⟩) f.len kc) ∧ w'.cell? ⟨bq, o + j * 4, none⟩ = some (.int .i64 k') ∧ w'.cell? ⟨bq, o + j * 4 + 1, none⟩ = some (.int .i64 n') ∧ w'.cell? ⟨bq, o + j * 4 + 2, none⟩ = some (.slice la' ls'.len lc') ∧ w'.cell? ⟨bq, o + j * 4 + 3, none⟩ = some (.slice ka' ks.len kc') ∧ w'.cell? ⟨w.heap.size + 1, 0, none⟩ = some (.int .i64 U.k) ∧ w'.cell? ⟨w.heap.size + 1, 1, none⟩ = some (.int .i64 U.n) ∧ w'.cell? ⟨w.heap.size + 1, 2, none⟩ = some (.slice ua U.ls.len uc) ∧ w'.cell? ⟨w.heap.size + 1, 3, none⟩ = some (.slice va U.ks.len vc)) wr.drew from ⟨q3, c0, c3, e0, e1, e2, e3, d0, d1, d2, d3⟩)
          try simp only [Act.put, List.setIfInBounds_toArray, List.set_cons_zero, List.set_cons_succ]
          refine wpAnyL_take (i := 0) (v := ?_) (by simp only [List.getElem?_toArray, List.getElem?_cons_zero]; rfl) (by kernel_rfl) (by kernel_rfl) (by kernel_rfl) (by kernel_rfl) (by intro _ _ _ h; exact h) (Or.inl ⟨by rfl, ?_⟩) hH ?_
          rotate_left
          · intro w' hSw
            obtain ⟨s0, s1, s2, s3, s4, s5, s6, s7, s8, s9, s10⟩ := hSw
            go_simp
            try with_reducible rfl
          try simp only [Act.put, List.setIfInBounds_toArray, List.set_cons_zero, List.set_cons_succ]
          refine wpAnyL_take (i := 1) (v := ?_) (by simp only [List.getElem?_toArray, List.getElem?_cons_succ, List.getElem?_cons_zero]; rfl) (by kernel_rfl) (by kernel_rfl) (by kernel_rfl) (by kernel_rfl) (by intro _ _ _ h; exact h) (Or.inl ⟨by rfl, ?_⟩) hH ?_
          rotate_left
          · intro w' hSw
            obtain ⟨s0, s1, s2, s3, s4, s5, s6, s7, s8, s9, s10⟩ := hSw
            go_simp
            try with_reducible rfl
          try simp only [Act.put, List.setIfInBounds_toArray, List.set_cons_zero, List.set_cons_succ]
          refine wpAnyL_take (i := 2) (v := ?_) (by simp only [List.getElem?_toArray, List.getElem?_cons_succ, List.getElem?_cons_zero]; rfl) (by kernel_rfl) (by kernel_rfl) (by kernel_rfl) (by kernel_rfl) (by intro _ _ _ h; exact h) (Or.inl ⟨by rfl, ?_⟩) hH ?_
          rotate_left
          · intro w' hSw
            obtain ⟨s0, s1, s2, s3, s4, s5, s6, s7, s8, s9, s10⟩ := hSw
            go_simp
            try with_reducible rfl
          try simp only [Act.put, List.setIfInBounds_toArray, List.set_cons_zero, List.set_cons_succ]
          refine wpAnyL_take (i := 3) (v := ?_) (by simp only [List.getElem?_toArray, List.getElem?_cons_succ, List.getElem?_cons_zero]; rfl) (by kernel_rfl) (by kernel_rfl) (by kernel_rfl) (by kernel_rfl) (by intro _ _ _ h; exact h) (Or.inl ⟨by rfl, ?_⟩) hH ?_
          rotate_left
          · intro w' hSw
            obtain ⟨s0, s1, s2, s3, s4, s5, s6, s7, s8, s9, s10⟩ := hSw
            go_simp
            try with_reducible rfl
          try simp only [Act.put, List.setIfInBounds_toArray, List.set_cons_zero, List.set_cons_succ]
          refine wpAnyL_take (i := 4) (v := ?_) (by simp only [List.getElem?_toArray, List.getElem?_cons_succ, List.getElem?_cons_zero]; rfl) (by kernel_rfl) (by kernel_rfl) (by kernel_rfl) (by kernel_rfl) (by intro _ _ _ h; exact h) (Or.inl ⟨by rfl, ?_⟩) hH ?_
          rotate_left
          · intro w' hSw
            obtain ⟨s0, s1, s2, s3, s4, s5, s6, s7, s8, s9, s10⟩ := hSw
            go_simp
            try with_reducible rfl
          try simp only [Act.put, List.setIfInBounds_toArray, List.set_cons_zero, List.set_cons_succ]
          refine wpAnyL_take (i := 5) (v := ?_) (by simp only [List.getElem?_toArray, List.getElem?_cons_succ, List.getElem?_cons_zero]; rfl) (by kernel_rfl) (by kernel_rfl) (by kernel_rfl) (by kernel_rfl) (by intro _ _ _ h; exact h) (Or.inl ⟨by rfl, ?_⟩) hH ?_
          rotate_left
          · intro w' hSw
            obtain ⟨s0, s1, s2, s3, s4, s5, s6, s7, s8, s9, s10⟩ := hSw
            go_simp
            try with_reducible rfl
          try simp only [Act.put, List.setIfInBounds_toArray, List.set_cons_zero, List.set_cons_succ]
          refine wpAnyL_take (i := 6) (v := ?_) (by simp only [List.getElem?_toArray, List.getElem?_cons_succ, List.getElem?_cons_zero]; rfl) (by kernel_rfl) (by kernel_rfl) (by kernel_rfl) (by kernel_rfl) (by intro _ _ _ h; exact h) (Or.inl ⟨by rfl, ?_⟩) hH ?_
          rotate_left
          · intro w' hSw
            obtain ⟨s0, s1, s2, s3, s4, s5, s6, s7, s8, s9, s10⟩ := hSw
            go_simp
            try with_reducible rfl
          try simp only [Act.put, List.setIfInBounds_toArray, List.set_cons_zero, List.set_cons_succ]
          refine wpAnyL_take (i := 7) (v := ?_) (by simp only [List.getElem?_toArray, List.getElem?_cons_succ, List.getElem?_cons_zero]; rfl) (by kernel_rfl) (by kernel_rfl) (by kernel_rfl) (by kernel_rfl) (by intro _ _ _ h; exact h) (Or.inl ⟨by rfl, ?_⟩) hH ?_
          rotate_left
          · intro w' hSw
            obtain ⟨s0, s1, s2, s3, s4, s5, s6, s7, s8, s9, s10⟩ := hSw
            go_simp
            try with_reducible rfl
          try simp only [Act.put, List.setIfInBounds_toArray, List.set_cons_zero, List.set_cons_succ]
          refine wpAnyL_take (i := 8) (v := ?_) (by simp only [List.getElem?_toArray, List.getElem?_cons_succ, List.getElem?_cons_zero]; rfl) (by kernel_rfl) (by kernel_rfl) (by kernel_rfl) (by kernel_rfl) (by intro _ _ _ h; exact h) (Or.inl ⟨by rfl, ?_⟩) hH ?_
          rotate_left
          · intro w' hSw
            obtain ⟨s0, s1, s2, s3, s4, s5, s6, s7, s8, s9, s10⟩ := hSw
            go_simp
            try with_reducible rfl
          try simp only [Act.put, List.setIfInBounds_toArray, List.set_cons_zero, List.set_cons_succ]
          refine wpAnyL_take (i := 9) (v := ?_) (by simp only [List.getElem?_toArray, List.getElem?_cons_succ, List.getElem?_cons_zero]; rfl) (by kernel_rfl) (by kernel_rfl) (by kernel_rfl) (by kernel_rfl) (by intro _ _ _ h; exact h) (Or.inl ⟨by rfl, ?_⟩) hH ?_
          rotate_left
          · intro w' hSw
            obtain ⟨s0, s1, s2, s3, s4, s5, s6, s7, s8, s9, s10⟩ := hSw
            go_simp
            try with_reducible rfl
          try simp only [Act.put, List.setIfInBounds_toArray, List.set_cons_zero, List.set_cons_succ]
          refine wpAnyL_take (i := 10) (v := ?_) (by simp only [List.getElem?_toArray, List.getElem?_cons_succ, List.getElem?_cons_zero]; rfl) (by kernel_rfl) (by kernel_rfl) (by kernel_rfl) (by kernel_rfl) (by intro _ _ _ h; exact h) (Or.inl ⟨by rfl, ?_⟩) hH ?_
          rotate_left
          · intro w' hSw
            obtain ⟨s0, s1, s2, s3, s4, s5, s6, s7, s8, s9, s10⟩ := hSw
            go_simp
            try with_reducible rfl
          try simp only [Act.put, List.setIfInBounds_toArray, List.set_cons_zero, List.set_cons_succ]
          refine wpAnyL_take (i := 13) (v := ?_) (by simp only [List.getElem?_toArray, List.getElem?_cons_succ, List.getElem?_cons_zero]; rfl) (by kernel_rfl) (by kernel_rfl) (by kernel_rfl) (by kernel_rfl) (by intro _ _ _ h; exact h) (Or.inl ⟨by rfl, ?_⟩) hH ?_
          rotate_left
          · intro w' hSw
            obtain ⟨s0, s1, s2, s3, s4, s5, s6, s7, s8, s9, s10⟩ := hSw
            go_simp
            try with_reducible rfl
          try simp only [Act.put, List.setIfInBounds_toArray, List.set_cons_zero, List.set_cons_succ]
          refine wpAnyL_one (i := 11) (o := _) (by kernel_rfl) (by simp only [List.getElem?_toArray, List.getElem?_cons_succ, List.getElem?_cons_zero]; rfl) (by decide) (fun K hK => ?_)
          go_simp
          go_at_call 46
          refine (HBI.out _).mono ?_
          rintro e wM ⟨rfl, rfl⟩
          refine hK.out _ _ hH ?_
          clear hK K
          try simp only [Act.put, List.setIfInBounds_toArray, List.set_cons_zero, List.set_cons_succ]
          refine wpAnyL_take (i := 12) (v := ?_) (by simp only [List.getElem?_toArray, List.getElem?_cons_succ, List.getElem?_cons_zero]; rfl) (by kernel_rfl) (by kernel_rfl) (by kernel_rfl) (by kernel_rfl) (by intro _ _ _ h; exact h) (Or.inl ⟨by rfl, ?_⟩) hH ?_
          rotate_left
          · intro w' hSw
            obtain ⟨s0, s1, s2, s3, s4, s5, s6, s7, s8, s9, s10⟩ := hSw
            go_simp
            try with_reducible rfl
          try simp only [Act.put, List.setIfInBounds_toArray, List.set_cons_zero, List.set_cons_succ]
          refine wpAnyL_one (i := 14) (o := _) (by kernel_rfl) (by simp only [List.getElem?_toArray, List.getElem?_cons_succ, List.getElem?_cons_zero]; rfl) (by decide) (fun K hK => ?_)
          go_simp
          go_at_call 43
          rw [HW1.out]
          refine HC.out.mono ?_
          intro e w2 hP
          obtain ⟨T, x1, y1, x2, y2, rfl, L2, hlb2, L2a, K2, K2a, g', cap', w3, HRUN, L3, Z3, K3, HN, HBX2⟩ := HAP.out e w2 hP
          clear hP hH
          have hH := (show (fun (w' : World) => w'.cell? ⟨w.heap.size + 1 + 1 + 1, 3, none⟩ = some v ∧ w'.cell? ⟨w.heap.size, 0, none⟩ = some (.int .i64 k) ∧ w'.cell? ⟨w.heap.size, 3, none⟩ = some (.slice (some ⟨bq, o, none⟩) f.len kc) ∧ w'.cell? ⟨bq, o + j * 4, none⟩ = some (.int .i64 k') ∧ w'.cell? ⟨bq, o + j * 4 + 1, none⟩ = some (.int .i64 n') ∧ w'.cell? ⟨bq, o + j * 4 + 2, none⟩ = some (.slice la' ls'.len lc') ∧ w'.cell? ⟨bq, o + j * 4 + 3, none⟩ = some (.slice ka' ks.len kc') ∧ w'.cell? ⟨w.heap.size + 1, 0, none⟩ = some (.int .i64 U.k) ∧ w'.cell? ⟨w.heap.size + 1, 1, none⟩ = some (.int .i64 U.n) ∧ w'.cell? ⟨w.heap.size + 1, 2, none⟩ = some (.slice ua U.ls.len uc) ∧ w'.cell? ⟨w.heap.size + 1, 3, none⟩ = some (.slice va U.ks.len vc)) w2 from ⟨L2, rqHeld2 K2.out hbN c0 c3 e0 e1 e2 e3 d0 d1 d2 d3⟩)
          refine hK.out _ _ hH ?_
          clear hK K
          try simp only [Act.put, List.setIfInBounds_toArray, List.set_cons_zero, List.set_cons_succ]
          refine wpAnyL_one (i := 15) (o := _) (by kernel_rfl) (by simp only [List.getElem?_toArray, List.getElem?_cons_succ, List.getElem?_cons_zero]; rfl) (by decide) (fun K hK => ?_)
          go_simp
          clear hH
          have hH := (show (fun (w' : World) => w'.cell? ⟨w.heap.size + 1 + 1 + 1, 3, none⟩ = some v ∧ w'.cell? ⟨w.heap.size, 0, none⟩ = some (.int .i64 k) ∧ w'.cell? ⟨w.heap.size, 3, none⟩ = some (.slice (some ⟨bq, o, none⟩) f.len kc) ∧ w'.cell? ⟨bq, o + j * 4, none⟩ = some (.int .i64 k') ∧ w'.cell? ⟨bq, o + j * 4 + 1, none⟩ = some (.int .i64 n') ∧ w'.cell? ⟨bq, o + j * 4 + 2, none⟩ = some (.slice la' ls'.len lc') ∧ w'.cell? ⟨bq, o + j * 4 + 3, none⟩ = some (.slice ka' ks.len kc') ∧ w'.cell? ⟨w.heap.size + 1, 0, none⟩ = some (.int .i64 U.k) ∧ w'.cell? ⟨w.heap.size + 1, 1, none⟩ = some (.int .i64 U.n) ∧ w'.cell? ⟨w.heap.size + 1, 2, none⟩ = some (.slice ua U.ls.len uc) ∧ w'.cell? ⟨w.heap.size + 1, 3, none⟩ = some (.slice va U.ks.len vc)) _ from ⟨L2a, rqHeld2 K2a.out hbN c0 c3 e0 e1 e2 e3 d0 d1 d2 d3⟩)
          refine hK.out _ _ hH ?_
          clear hK K
          try simp only [Act.put, List.setIfInBounds_toArray, List.set_cons_zero, List.set_cons_succ]
          refine wpAnyL_one (i := 16) (o := _) (by kernel_rfl) (by simp only [List.getElem?_toArray, List.getElem?_cons_succ, List.getElem?_cons_zero]; rfl) (by decide) (fun K hK => ?_)
          refine step_append (by rfl) _ _ _ (by rfl) (by rfl) (by rfl) HRUN.out ?_
          clear hH
          have hH := (show (fun (w' : World) => w'.cell? ⟨w.heap.size + 1 + 1 + 1, 3, none⟩ = some v ∧ w'.cell? ⟨w.heap.size, 0, none⟩ = some (.int .i64 k) ∧ w'.cell? ⟨w.heap.size, 3, none⟩ = some (.slice (some ⟨bq, o, none⟩) f.len kc) ∧ w'.cell? ⟨bq, o + j * 4, none⟩ = some (.int .i64 k') ∧ w'.cell? ⟨bq, o + j * 4 + 1, none⟩ = some (.int .i64 n') ∧ w'.cell? ⟨bq, o + j * 4 + 2, none⟩ = some (.slice la' ls'.len lc') ∧ w'.cell? ⟨bq, o + j * 4 + 3, none⟩ = some (.slice ka' ks.len kc') ∧ w'.cell? ⟨w.heap.size + 1, 0, none⟩ = some (.int .i64 U.k) ∧ w'.cell? ⟨w.heap.size + 1, 1, none⟩ = some (.int .i64 U.n) ∧ w'.cell? ⟨w.heap.size + 1, 2, none⟩ = some (.slice ua U.ls.len uc) ∧ w'.cell? ⟨w.heap.size + 1, 3, none⟩ = some (.slice va U.ks.len vc)) w3 from ⟨L3, rqHeld2 K3.out hbN c0 c3 e0 e1 e2 e3 d0 d1 d2 d3⟩)
          refine hK.out _ _ hH ?_
          clear hK K
          try simp only [Act.put, List.setIfInBounds_toArray, List.set_cons_zero, List.set_cons_succ]
          refine wpAnyL_take (i := 17) (v := ?_) (by simp only [List.getElem?_toArray, List.getElem?_cons_succ, List.getElem?_cons_zero]; rfl) (by kernel_rfl) (by kernel_rfl) (by kernel_rfl) (by kernel_rfl) (by intro _ _ _ h; exact h) (Or.inl ⟨by rfl, ?_⟩) hH ?_
          rotate_left
          · intro w' hSw
            obtain ⟨s0, s1, s2, s3, s4, s5, s6, s7, s8, s9, s10⟩ := hSw
            go_simp
            try with_reducible rfl
          try simp only [Act.put, List.setIfInBounds_toArray, List.set_cons_zero, List.set_cons_succ]
          refine wpAnyL_last (o := _) (by kernel_rfl) (by simp only [List.getElem?_toArray, List.getElem?_cons_succ, List.getElem?_cons_zero]; rfl) (fun K hK => ?_)
          go_simp
          refine hK.out _ _ ?_
          clear hK K hH
          try simp only [Act.put, List.setIfInBounds_toArray, List.set_cons_zero, List.set_cons_succ]
          refine wpAnyL_done (by kernel_rfl) ?_ _
          go_wp2_with fail
          go_roundw
          case rel => exact ⟨j + 1, _, r', _, by go_num, HSN, Lib.hid (by rw [Ft.app_len, HJ.out]; rfl), HN, HBX2⟩
          case measure => simp [intOf]; omega
end Go.Proofs.Ytokckghedpdfiaa
