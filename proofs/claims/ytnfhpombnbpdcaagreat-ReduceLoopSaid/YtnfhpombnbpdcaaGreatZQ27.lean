/- Trep. No condition but those that stand in each statement. -/
import Derived.Deep.RegionLaw
import Derived.IntWalk
import Derived.Test.YtnfhpombnbpdcaaGreatZQ26
import Derived.Test.YtnfhpombnbpdcaaGreatZQ22
import Derived.Test.YtnfhpombnbpdcaaGreatZQ0
namespace Go.Proofs.YtnfhpombnbpdcaaGreat
open Go.RowKit
def TrR (w : World) (OB B : Nat) (k n : Int) (ls : Fo) (la : Option Addr) (lc : Nat) (G : Ft) (v : Value) (wr : World) : Prop :=
  wr.heap[w.heap.size + 1]? = some (.cells #[.int .i64 0, .int .i64 0, .slice none 0 0, .slice none 0 0] 30 (0, 0)) ∧ wr.heap[OB]? = some (.cells #[.int .i64 k, .int .i64 n, .slice la ls.len lc, v] 30 (0, 0)) ∧ TsMix B (OB + 1) wr v G ∧ w.heap.size + 1 < OB ∧ B ≤ w.heap.size ∧ Below w.heap.size w wr
theorem TrR.facts {w : World} {OB B : Nat} {k n : Int} {ls : Fo} {la : Option Addr} {lc : Nat} {G : Ft} {v : Value} {wr : World} (h : TrR w OB B k n ls la lc G v wr) :
    (wr.cell? ⟨w.heap.size + 1, 0, none⟩ = some (.int .i64 0) ∧ wr.cell? ⟨w.heap.size + 1, 1, none⟩ = some (.int .i64 0) ∧ wr.cell? ⟨w.heap.size + 1, 2, none⟩ = some (.slice none 0 0) ∧ wr.cell? ⟨w.heap.size + 1, 3, none⟩ = some (.slice none 0 0) ∧ (∀ o, wr.frozen? ⟨w.heap.size + 1, o, none⟩ = false)) ∧
    (wr.cell? ⟨OB, 0, none⟩ = some (.int .i64 k) ∧ wr.cell? ⟨OB, 1, none⟩ = some (.int .i64 n) ∧ wr.cell? ⟨OB, 2, none⟩ = some (.slice la ls.len lc) ∧ wr.cell? ⟨OB, 3, none⟩ = some v ∧ (∀ o, wr.frozen? ⟨OB, o, none⟩ = false)) ∧ OB < wr.heap.size ∧ Below w.heap.size w wr := by
  obtain ⟨h1, h2, _, _, _, h6⟩ := h
  exact ⟨⟨cell_at h1 0, cell_at h1 1, cell_at h1 2, cell_at h1 3, free_of h1⟩, ⟨cell_at h2 0, cell_at h2 1, cell_at h2 2, cell_at h2 3, free_of h2⟩, lt_of_block h2, h6⟩
theorem TrR.next {w : World} {OB B : Nat} {k n : Int} {ls : Fo} {la : Option Addr} {lc : Nat} {G : Ft} {v : Value} {wr : World} (h : TrR w OB B k n ls la lc G v wr) (hG : G.len ≤ 1000) {T : Tm} {w2 : World} {x1 x2 : Option Addr} {c1 c2 : Nat}
    (hl : SlIn w2 (fun b => (b < B ∨ wr.heap.size ≤ b) ∧ b < w2.heap.size) T.ls x1 c1) (hs : TlIn w2 (fun b => (b < B ∨ wr.heap.size ≤ b) ∧ b < w2.heap.size) T.ks x2 c2) (hb : Below wr.heap.size wr w2) :
    w2.cell? ⟨OB, 3, none⟩ = some v ∧ OB < w2.heap.size ∧ ∃ g' cap' w3, (Builtin.append_ #[28, 28] 28 #[v, .slice (some ⟨w2.heap.size, 0, none⟩) 1 1]).run Tryz.prog (w2.alloc (.cells #[.int .i64 T.k, .int .i64 T.n, .slice x1 T.ls.len c1, .slice x2 T.ks.len c2] 30)) = .ok (.slice (some ⟨g', 0, none⟩) (G.len + 1) cap') w3 ∧
      w3.cell? ⟨OB, 3, none⟩ = some v ∧ (∀ o, w3.frozen? ⟨OB, o, none⟩ = false) ∧ TrR w OB B k n ls la lc (G.app T.one) (.slice (some ⟨g', 0, none⟩) (G.len + 1) cap') (w3.setCell ⟨OB, 3, none⟩ (.slice (some ⟨g', 0, none⟩) (G.len + 1) cap')) := by
  obtain ⟨h1, h2, h3, h4, h5, h6⟩ := h
  have hlt := lt_of_block h2
  have e1 := (hb.block _ (lt_of_block h1)).trans h1
  have e2 := (hb.block _ hlt).trans h2
  have hz := hb.size
  have hM : ∀ b, (b < B ∨ wr.heap.size ≤ b) ∧ b < w2.heap.size → Mx B (OB + 1) w2 v b := fun b hb' => h3.out (by omega) (by omega) hb'
  obtain ⟨g', cap', w3, hrun, k3, same, z3, o1, o2, o3⟩ := (h3.later hb).append T.k T.n (hl.weak hM) (hs.weak hM) 28 hG (by omega)
  have nv : ∀ b, b ≤ OB → some b ≠ v.ownBlock := fun b hb e => by have := (h3.lt b e.symm).1; omega
  have f1 := (same _ (lt_of_block e1) (nv _ (by omega))).trans e1
  have f2 := (same _ (lt_of_block e2) (nv _ (by omega))).trans e2
  have n1 : w.heap.size + 1 ≠ OB := by omega
  refine ⟨cell_at e2 3, lt_of_block e2, g', cap', w3, hrun, cell_at f2 3, free_of f2, (Below.heap_setCell _ _ _ _ n1).trans f1, heap_setCell_same w3 _ 3 _ _ _ f2, k3.setLow (by omega) (by omega) 3 _, h4, h5, ?_⟩
  refine ⟨(o1.trans hb.os).trans h6.os, (o2.trans hb.tape).trans h6.tape, (o3.trans hb.output).trans h6.output, ?_, fun q hq => ?_⟩
  · have := h6.size; simp; omega
  · have hq6 := h6.size
    have nq : q ≠ OB := by omega
    rw [Below.heap_setCell _ _ _ _ nq, same q (by omega) (nv q (by omega)), hb.block q (by omega)]
    exact h6.block q hq
theorem TrR.done {w : World} {OB B : Nat} {k n : Int} {ls : Fo} {la : Option Addr} {lc : Nat} {G : Ft} {v : Value} {wr : World} (h : TrR w OB B k n ls la lc G v wr) (hl : SlIn w (· < B) ls la lc) : ∃ x c, v = .slice x G.len c ∧
    TmPost B ⟨k, n, ls, G⟩ w (.returned (.agg #[.int .i64 k, .int .i64 n, .slice la ls.len lc, .slice x G.len c])) ((((wr.setCell ⟨w.heap.size + 1, 0, none⟩ (.int .i64 k)).setCell ⟨w.heap.size + 1, 1, none⟩ (.int .i64 n)).setCell ⟨w.heap.size + 1, 2, none⟩ (.slice la ls.len lc)).setCell ⟨w.heap.size + 1, 3, none⟩ (.slice x G.len c)) := by
  obtain ⟨h1, h2, h3, h4, h5, h6⟩ := h
  obtain ⟨x, c, rfl, hsl⟩ := h3.slice
  have hg := set4_only (w := wr) (w.heap.size + 1) (.int .i64 k) (.int .i64 n) (.slice la ls.len lc) (.slice x G.len c)
  have hz := h6.size
  refine ⟨x, c, rfl, la, lc, x, c, rfl, ?_, ?_, ?_⟩
  · exact ((hl.below (h6.mono h5)).keep (fun b hb => Only.block hg (by omega) (by omega))).weak (fun b hb => ⟨.inl hb, by have := hg.size; omega⟩)
  · exact hsl.turn (fun b hb => Only.block hg hb.2 (by omega)) (fun b hb => ⟨by omega, Nat.lt_of_lt_of_le hb.2 hg.size⟩)
  · exact ⟨hg.os.trans h6.os, hg.tape.trans h6.tape, hg.output.trans h6.output, Nat.le_trans h6.size hg.size, fun q hq => (Only.block hg (by omega) (by omega)).trans (h6.block q hq)⟩
theorem TrR.start {w : World} {k n : Int} {ls : Fo} {la : Option Addr} {lc B : Nat} (o1 : Obj) (hB : B ≤ w.heap.size) :
    TrR w (w.heap.size + 1 + 1) B k n ls la lc .nil (.slice none 0 0) (((w.alloc o1).alloc (.cells #[.int .i64 0, .int .i64 0, .slice none 0 0, .slice none 0 0] 30)).alloc (.cells #[.int .i64 k, .int .i64 n, .slice la ls.len lc, .slice none 0 0] 30)) := by
  refine ⟨(heap_old _ _ (by simp)).trans (heap_second _ _ _), ?_, TsMix.nil _ _ _, by omega, hB, (((Below.refl _ _).alloc (Nat.le_refl _) _).alloc (by simp) _).alloc (by simp; omega) _⟩
  have := heap_second (w.alloc o1) (.cells #[.int .i64 0, .int .i64 0, .slice none 0 0, .slice none 0 0] 30) (.cells #[.int .i64 k, .int .i64 n, .slice la ls.len lc, .slice none 0 0] 30)
  simpa using this
set_option maxRecDepth 100000 in
set_option maxHeartbeats 8000000 in
theorem treplaced_any (F : Nat) (hF : F = 61 ∨ F = 93) (p1 p2 : Value) (g : Int → Int → Tm) (B r : Nat) (OK : World → Prop) (HOK : ∀ W W' : World, OK W → Below W.heap.size W W' → OK W')
    (HG : ∀ (n b : Int) (W : World), OK W → TabAt W r → B ≤ W.heap.size → 0 ≤ n → n ≤ 1030 → 0 ≤ b → b ≤ 2000 → Calls Tryz.prog F #[.int .i64 n, .int .i64 b, p1, p2] W (TmPost B (g n b) W)) (s : Nat) :
    ∀ (f : Ft), f.size < s → f.size ≤ 1000 → ∀ (k n b : Int) (ls : Fo) (la ka : Option Addr) (lc kc : Nat) (w : World), wf1 1030 k n ls f → 0 ≤ b → b + f.size ≤ 2000 → SlIn w (· < B) ls la lc → TlIn w (· < B) f ka kc → B ≤ w.heap.size → TabAt w r → OK w →
    Calls Tryz.prog 60 #[.map (some r), .agg #[.int .i64 k, .int .i64 n, .slice la ls.len lc, .slice ka f.len kc], .int .i64 b, .func (.func F) #[] #[p1, p2]] w (TmPost B (rep1 g k n ls f b) w) := by
  induction s with
  | zero => intro f hs; omega
  | succ s ih =>
    intro f hs hsz k n b ls la ka lc kc w hwf hb0 hb1 hls hsl hB hm hok
    have IH := Lib.hid ih
    have HG := Lib.hid HG
    have HOK := Lib.hid HOK
    clear ih
    have hlen := hsl.len
    by_cases hk : k = 1
    · obtain ⟨hz1, hz2, hn0, hn1⟩ := wf1_leaf (hk ▸ hwf)
      clear hz1 hz2
      have e : rep1 g k n ls f b = g n b := if_pos hk
      rw [e]
      have hk' : (k == 1) = true := beq_iff_eq.2 hk
      have hb : Below w.heap.size w ((w.alloc (.cells #[.int .i64 k, .int .i64 n, .slice la ls.len lc, .slice ka f.len kc] 30)).alloc (.cells #[.int .i64 0, .int .i64 0, .slice none 0 0, .slice none 0 0] 30)) := ((Below.refl _ _).alloc (Nat.le_refl _) _).alloc (by simp) _
      have HC := Lib.hid (HG.out n b _ (HOK.out _ _ hok hb) (hm.later hb) (Nat.le_trans hB hb.size) hn0 hn1 hb0 (by omega))
      have HR0 := Lib.hid (heap_second w (.cells #[.int .i64 k, .int .i64 n, .slice la ls.len lc, .slice ka f.len kc] 30) (.cells #[.int .i64 0, .int .i64 0, .slice none 0 0, .slice none 0 0] 30))
      have HB := Lib.hid hb
      generalize g n b = T at HC
      clear hk e hb hm hok hls hsl hwf IH HG HOK
      rcases hF with rfl | rfl
      all_goals
        go_enter Tryz.func60, Tryz.ntmps60
        go_wp2_with fail
        refine HC.out.mono ?_
        rintro e w1 ⟨x1, y1, x2, y2, rfl, hl1, hs1, hb1⟩
        have hR1 := (hb1.block (w.heap.size + 1) (by simp)).trans HR0.out
        obtain ⟨g0, g1, g2, g3⟩ := cells4 hR1
        have gz := free_of hR1
        have hlt := lt_of_block hR1
        have HE := Lib.hid (TmPost.store (B := B) (w := w) (R := w.heap.size + 1) (T := T) hl1 hs1 (Below.step HB.out hb1 (Nat.le_refl _)) hB (by omega) (by simp))
        clear hl1 hs1 hb1 hR1
        go_wp2_with fail
        refine bodyPost_ret (v := .agg #[.int .i64 T.k, .int .i64 T.n, .slice x1 T.ls.len y1, .slice x2 T.ks.len y2]) (by simp [results, Tryz.results60, go_sem, g0, g1, g2, g3]) rfl ?_
        exact HE.out
    · have hk' : (k == 1) = false := beq_eq_false_iff_ne.2 hk
      have e : rep1 g k n ls f b = ⟨k, n, ls, repF g f k 0 b⟩ := if_neg hk
      rw [e]
      obtain ⟨⟨hk1, hk7, hlk⟩, _, hwk⟩ := hwf
      have hkn : (tkids k).toNat = f.len := by omega
      have HK := Lib.hid hlk
      have HM := Lib.hid hm
      have HW := Lib.hid hwk
      have HO := Lib.hid hok
      have HLS := Lib.hid hls
      have HSL := Lib.hid hsl
      have hT1 := ((hm.alloc (.cells #[.int .i64 k, .int .i64 n, .slice la ls.len lc, .slice ka f.len kc] 30)).alloc (.cells #[.int .i64 0, .int .i64 0, .slice none 0 0, .slice none 0 0] 30)).alloc (.cells #[.int .i64 k, .int .i64 n, .slice la ls.len lc, .slice none 0 0] 30)
      have hlook := run_tlook _ r hT1 k false hk1 hk7
      simp only [tRow, tRw, hkn] at hlook
      have hlook' : (Instr.lookup 77 (.map (some r)) (.int .i64 k) false).run Tryz.prog (((w.alloc (.cells #[.int .i64 k, .int .i64 n, .slice la ls.len lc, .slice ka f.len kc] 30)).alloc (.cells #[.int .i64 0, .int .i64 0, .slice none 0 0, .slice none 0 0] 30)).alloc (.cells #[.int .i64 k, .int .i64 n, .slice la ls.len lc, .slice none 0 0] 30)) =
          .ok (.agg #[.func (.func (tFn k)) #[] #[], .int .i64 (tlo k), .int .i64 (thi k), .slice (tAddr r k) f.len f.len]) (((w.alloc (.cells #[.int .i64 k, .int .i64 n, .slice la ls.len lc, .slice ka f.len kc] 30)).alloc (.cells #[.int .i64 0, .int .i64 0, .slice none 0 0, .slice none 0 0] 30)).alloc (.cells #[.int .i64 k, .int .i64 n, .slice la ls.len lc, .slice none 0 0] 30)) := hlook
      have fd := run_tfield3
      have HS := Lib.hid (TrR.start (k := k) (n := n) (ls := ls) (la := la) (lc := lc) (.cells #[.int .i64 k, .int .i64 n, .slice la ls.len lc, .slice ka f.len kc] 30) hB)
      clear hlook hkn hlk hm hT1 hwk hk e hok hls hsl
      go_enter Tryz.func60, Tryz.ntmps60
      go_wp2_with fail
      clear hlook' fd
      go_loopw [36] (fun jv wr => ∃ (j : Nat) (H rest : Ft) (v : Value), jv = .int .i64 j ∧ Hid (f = H.app rest) ∧ Hid (H.len = j) ∧ Hid (TrR w (w.heap.size + 1 + 1) B k n ls la lc (repF g H k 0 b) v wr)) (fun jv _ => f.len - (intOf jv).toNat)
      case atStart => exact ⟨0, .nil, f, _, rfl, Lib.hid rfl, Lib.hid rfl, HS⟩
      case round =>
        obtain ⟨j, H, rest, v, rfl, hf, hj, hR⟩ := hrel
        obtain ⟨⟨g0, g1, g2, g3, gz⟩, ⟨q0, q1, q2, q3, qz⟩, hob, hwr⟩ := hR.out.facts
        cases rest with
        | nil =>
          have hjl : ¬ (j : Int) < (f.len : Int) := by rw [hf.out, Ft.app_nil, hj.out]; omega
          have dj : decide ((j : Int) < (f.len : Int)) = false := by simpa using hjl
          obtain ⟨x, c, rfl, hE⟩ := hR.out.done HLS.out
          have HE := Lib.hid hE
          have HF : Hid (f = H) := Lib.hid (by rw [hf.out, Ft.app_nil])
          clear hE hR hf
          go_wp2_with fail
          refine bodyPost_ret (v := .agg #[.int .i64 k, .int .i64 n, .slice la ls.len lc, .slice x (repF g H k 0 b).len c]) (by simp [results, Tryz.results60, go_sem, g0, g1, g2, g3]) rfl ?_
          rw [HF.out]
          exact HE.out
        | cons k' n' ls' ks r' =>
          have hjn : j < f.len := by rw [hf.out, Ft.app_len, hj.out]; simp [Ft.len]
          have hjl : (j : Int) < (f.len : Int) := by omega
          obtain ⟨bq, o, rfl, hbB, hf0⟩ := HSL.out.some (by omega)
          have hfa : FtIn w (· < B) (.cons k' n' ls' ks r') bq (o + j * 4) := by
            have h1 := hf0
            rw [hf.out] at h1
            rw [← hj.out]
            exact FtIn.behind H _ bq o h1
          obtain ⟨e0, e1, ⟨la', lc', e2, hls'⟩, ⟨ka', kc', e3, hsl'⟩, _⟩ := (hfa.below (hwr.mono hB) _ _ _ hbB).first
          have hsz' := hsz
          rw [hf.out, Ft.app_size] at hsz'
          simp only [Ft.size] at hsz'
          have hfs : f.size = H.size + (ks.size + r'.size + 1) := by rw [hf.out, Ft.app_size]; rfl
          have hks : ks.size < s := by omega
          have hwk' : wf1 1030 k' n' ls' ks := by
            have h1 := HW.out
            rw [hf.out, wfF_app] at h1
            exact (wfF_parts h1.2).1
          have hbi := bindK_le k j
          have hTr : TabAt wr r := HM.out.later hwr
          obtain ⟨bb, hbb, hb1', hb2', hb3⟩ := hTr.own (k := k) (i := j) (by have := HK.out; omega)
          have hBr : B ≤ wr.heap.size := Nat.le_trans hB hwr.size
          have hbk : Below wr.heap.size wr (wr.alloc (.cells #[.int .i64 k', .int .i64 n', .slice la' ls'.len lc', .slice ka' ks.len kc'] 30)).drew := ((Below.refl _ _).alloc (Nat.le_refl _) _).drew
          have HC : Hid (Calls Tryz.prog 60 #[.map (some r), .agg #[.int .i64 k', .int .i64 n', .slice la' ls'.len lc', .slice ka' ks.len kc'], .int .i64 (b + bindK k j), .func (.func F) #[] #[p1, p2]] (wr.alloc (.cells #[.int .i64 k', .int .i64 n', .slice la' ls'.len lc', .slice ka' ks.len kc'] 30)).drew (TmPost B (rep1 g k' n' ls' ks (b + bindK k j)) (wr.alloc (.cells #[.int .i64 k', .int .i64 n', .slice la' ls'.len lc', .slice ka' ks.len kc'] 30)).drew)) :=
            Lib.hid (IH.out ks hks (by omega) k' n' (b + bindK k j) ls' la' ka' lc' kc' _ hwk' (by omega) (by omega) (hls'.below (hbk.mono hBr)) (hsl'.below (hbk.mono hBr)) (Nat.le_trans hBr hbk.size) (hTr.later hbk) (HOK.out _ _ HO.out (hwr.trans (hbk.mono hwr.size))))
          have hGl : (repF g H k 0 b).len = j := by rw [repF_len, hj.out]
          have hT' : repF g (H.app (.cons k' n' ls' ks .nil)) k 0 b = (repF g H k 0 b).app (rep1 g k' n' ls' ks (b + bindK k j)).one := by
            rw [repF_app, repF_cons, hj.out, Nat.zero_add]; rfl
          have HT' := Lib.hid hT'
          have HAP : Hid (∀ (e : Ending) (w2 : World), TmPost B (rep1 g k' n' ls' ks (b + bindK k j)) (wr.alloc (.cells #[.int .i64 k', .int .i64 n', .slice la' ls'.len lc', .slice ka' ks.len kc'] 30)).drew e w2 → ∃ (T : Tm) (x1 : Option Addr) (y1 : Nat) (x2 : Option Addr) (y2 : Nat), e = .returned (.agg #[.int .i64 T.k, .int .i64 T.n, .slice x1 T.ls.len y1, .slice x2 T.ks.len y2]) ∧
              w2.cell? ⟨w.heap.size + 1 + 1, 3, none⟩ = some v ∧ w.heap.size + 1 + 1 < w2.heap.size ∧ (w2.alloc (.cells #[.int .i64 T.k, .int .i64 T.n, .slice x1 T.ls.len y1, .slice x2 T.ks.len y2] 30)).cell? ⟨w.heap.size + 1 + 1, 3, none⟩ = some v ∧
              ∃ g' cap' w3, Hid ((Builtin.append_ #[28, 28] 28 #[v, .slice (some ⟨w2.heap.size, 0, none⟩) 1 1]).run Tryz.prog (w2.alloc (.cells #[.int .i64 T.k, .int .i64 T.n, .slice x1 T.ls.len y1, .slice x2 T.ks.len y2] 30)) = .ok (.slice (some ⟨g', 0, none⟩) (j + 1) cap') w3) ∧
                w3.cell? ⟨w.heap.size + 1 + 1, 3, none⟩ = some v ∧ (∀ o, w3.frozen? ⟨w.heap.size + 1 + 1, o, none⟩ = false) ∧ Hid (TrR w (w.heap.size + 1 + 1) B k n ls la lc (repF g (H.app (.cons k' n' ls' ks .nil)) k 0 b) (.slice (some ⟨g', 0, none⟩) (j + 1) cap') (w3.setCell ⟨w.heap.size + 1 + 1, 3, none⟩ (.slice (some ⟨g', 0, none⟩) (j + 1) cap')))) := Lib.hid (by
            rintro e w2 ⟨x1, y1, x2, y2, rfl, t0, t1, t2⟩
            have hG1 : (repF g H k 0 b).len ≤ 1000 := by rw [hGl]; have h1 := Ft.len_le_size f; omega
            have hP : ∀ q, (q < B ∨ (wr.alloc (.cells #[.int .i64 k', .int .i64 n', .slice la' ls'.len lc', .slice ka' ks.len kc'] 30)).drew.heap.size ≤ q) ∧ q < w2.heap.size → (q < B ∨ wr.heap.size ≤ q) ∧ q < w2.heap.size := fun q hq => ⟨by have h1 := hq.1; simp at h1; omega, hq.2⟩
            have t4 : Below wr.heap.size wr w2 := Below.trans (((Below.refl _ _).alloc (Nat.le_refl _) _).drew) (t2.mono (by simp))
            obtain ⟨L2, hlb2, g', cap', w3, hrun, L3, Z3, hN⟩ := TrR.next hR.out hG1 (t0.weak hP) (t1.weak hP) t4
            rw [hGl] at hrun hN
            rw [hT']
            exact ⟨_, x1, y1, x2, y2, rfl, L2, hlb2, (World.cell?_of_block (w := w2) (a := ⟨w.heap.size + 1 + 1, 3, none⟩) (heap_old w2 _ hlb2)).trans L2, g', cap', w3, Lib.hid hrun, L3, Z3, Lib.hid hN⟩)
          have HSN : Hid (f = (H.app (.cons k' n' ls' ks .nil)).app r') := Lib.hid (by rw [hf.out, Ft.app_assoc]; rfl)
          have HJ := Lib.hid hj.out
          have HW1 : Hid (IntKind.i64.wrap (b + bindK k j) = b + bindK k j) := Lib.hid (IntWalk.i64_in _ (by omega))
          have m1 := hb3
          have hbr : bb < wr.heap.size := by have := hTr.lt; omega
          have m2 := (World.cell?_of_block (a := ⟨bb, j, none⟩) (heap_old wr (.cells #[.int .i64 k', .int .i64 n', .slice la' ls'.len lc', .slice ka' ks.len kc'] 30) hbr)).trans hb3
          rw [hbb]
          generalize bindK k j = Y at HC HAP HW1 m1 m2
          generalize rep1 g k' n' ls' ks (b + Y) = TT at HC HAP
          clear hf hR hfa hf0 hGl hT' HT' g0 g1 g2 g3 gz q0 q1 q2 qz hbk hb3 hls' hsl' hwk' hbi hTr hb1' hb2' hbb hsz' hfs
          go_wp2_with fail
          go_region_law (first
            | (refine step_append (by rfl) _ _ _ (by rfl) (by rfl) (by rfl) HRUN.out ?_)
            | (go_simp; go_at_call 60; rw [HW1.out]; refine HC.out.mono ?_; intro e w2 hP; obtain ⟨T, x1, y1, x2, y2, rfl, L2, hlb2, L2a, g', cap', w3, HRUN, L3, Z3, HN⟩ := HAP.out e w2 hP; clear hP))
          all_goals
            go_wp2_with fail
            go_roundw
            case rel => exact ⟨j + 1, _, r', _, by go_num, HSN, Lib.hid (by rw [Ft.app_len, HJ.out]; rfl), HN⟩
            case measure => simp [intOf]; omega
end Go.Proofs.YtnfhpombnbpdcaaGreat
