/- The contract of the document's own sub: each level of a term with others put in, or that one is too great. No condition but that the term and the levels lie in memory, and that no row is longer than a thousand. -/
import Derived.Test.YtcnhfoppfihhiaaQspec
import Derived.Test.YtcnhfoppfihhiaaR5sub3
import Derived.Test.YtcnhfoppfihhiaaTcrow
import Derived.Test.YtcnhfoppfihhiaaWpl
import Derived.IntWalk
import Derived.Deep.CutBlock
namespace Go.Proofs.Ytcnhfoppfihhiaa
open Go.RowKit

/-- What sub answers: the term, and whether no level was too great. -/
def qS (P Q : Fo) (T : Tm) : Tm × Bool := if T.qok P Q = true then (T.q P Q, true) else (tZ, false)
theorem qS_yes {P Q : Fo} {T : Tm} (h : T.qok P Q = true) : qS P Q T = (T.q P Q, true) := if_pos h
theorem qS_no {P Q : Fo} {T : Tm} (h : T.qok P Q = false) : qS P Q T = (tZ, false) := by unfold qS; rw [if_neg (by rw [h]; simp)]
def QsPost (B : Nat) (A : Tm × Bool) (w : World) (e : Ending) (w' : World) : Prop :=
  ∃ (la : Option Addr) (lc : Nat) (x : Option Addr) (c : Nat), e = .returned (.tuple #[.agg #[.int .i64 A.1.k, .int .i64 A.1.n, .slice la A.1.ls.len lc, .slice x A.1.ks.len c], .bool A.2]) ∧ SlIn w' (fun b => (b < B ∨ w.heap.size ≤ b) ∧ b < w'.heap.size) A.1.ls la lc ∧ TlIn w' (fun b => (b < B ∨ w.heap.size ≤ b) ∧ b < w'.heap.size) A.1.ks x c ∧ Below w.heap.size w w'
theorem QsPost.no {B : Nat} {w w' : World} (h : Below w.heap.size w w') : QsPost B (tZ, false) w (.returned (.tuple #[.agg #[.int .i64 0, .int .i64 0, .slice none 0 0, .slice none 0 0], .bool false])) w' := ⟨none, 0, none, 0, rfl, SlIn.none _ _, TlIn.none _ _, h⟩
theorem QsPost.of {B : Nat} {T : Tm} {w w' : World} {la x : Option Addr} {lc c : Nat} (h : TmPost B T w (.returned (.agg #[.int .i64 T.k, .int .i64 T.n, .slice la T.ls.len lc, .slice x T.ks.len c])) w') : QsPost B (T, true) w (.returned (.tuple #[.agg #[.int .i64 T.k, .int .i64 T.n, .slice la T.ls.len lc, .slice x T.ks.len c], .bool true])) w' := by
  obtain ⟨la', lc', x', c', he, h1, h2, h3⟩ := h
  simp only [Ending.returned.injEq, Value.agg.injEq, Array.mk.injEq, List.cons.injEq, Value.slice.injEq, true_and, and_true] at he
  obtain ⟨⟨rfl, rfl⟩, rfl, rfl⟩ := he
  exact ⟨_, _, _, _, rfl, h1, h2, h3⟩
theorem qF_app (P Q : Fo) : ∀ f g : Ft, qF P Q (f.app g) = (qF P Q f).app (qF P Q g)
  | .nil, _ => rfl
  | .cons k n ls ks r, g => by
    show Ft.cons k n (sbF P Q ls) (qF P Q ks) (qF P Q (r.app g)) = Ft.cons k n (sbF P Q ls) (qF P Q ks) ((qF P Q r).app (qF P Q g))
    rw [qF_app P Q r g]
theorem qOk_app (P Q : Fo) : ∀ f g : Ft, qOk P Q (f.app g) = (qOk P Q f && qOk P Q g)
  | .nil, _ => by simp [Ft.app, qOk]
  | .cons k n ls ks r, g => by
    show ((lvOkB P Q ls && qOk P Q ks) && qOk P Q (r.app g)) = (((lvOkB P Q ls && qOk P Q ks) && qOk P Q r) && qOk P Q g)
    rw [qOk_app P Q r g]; simp only [Bool.and_assoc]
theorem lvOk_app (P Q : Fo) : ∀ f g : Fo, lvOkB P Q (f.app g) = (lvOkB P Q f && lvOkB P Q g)
  | .nil, _ => by simp [Fo.app, lvOkB]
  | .cons k n ks r, g => by
    show (decide (subE P Q k n ks = 0) && lvOkB P Q (r.app g)) = ((decide (subE P Q k n ks = 0) && lvOkB P Q r) && lvOkB P Q g)
    rw [lvOk_app P Q r g, Bool.and_assoc]
theorem foNil3 : ∀ f : Fo, f.app .nil = f
  | .nil => rfl
  | .cons k n ks r => by show Fo.cons k n ks (r.app .nil) = _; rw [foNil3 r]
theorem foAss3 : ∀ f g h : Fo, (f.app g).app h = f.app (g.app h)
  | .nil, _, _ => rfl
  | .cons k n ks r, g, h => by show Fo.cons k n ks ((r.app g).app h) = Fo.cons k n ks (r.app (g.app h)); rw [foAss3 r]
theorem FoIn.behind3 {w : World} {P : Nat → Prop} : ∀ (G r : Fo) (b o : Nat), FoIn w P (G.app r) b o → FoIn w P r b (o + G.len * 3)
  | .nil, _, _, _, h => by simpa [Fo.len, Fo.app] using h
  | .cons _ _ _ g, r, b, o, h => by
    have := FoIn.behind3 g r b (o + 3) h.2.2.2
    rw [show o + (Fo.len (.cons _ _ _ g)) * 3 = o + 3 + g.len * 3 by simp [Fo.len]; omega]
    exact this

set_option maxRecDepth 100000 in
set_option maxHeartbeats 8000000 in
theorem r15sub_any (P Q : Fo) (ap aq : Option Addr) (cp cq B : Nat) (s : Nat) : ∀ (f : Ft), f.size < s → f.size ≤ 1000 → f.lvsz 1000 → ∀ (k n : Int) (ls : Fo) (la ka : Option Addr) (lc kc : Nat) (w : World), ls.size ≤ 1000 → SlIn w (· < B) P ap cp → SlIn w (· < B) Q aq cq → SlIn w (· < B) ls la lc → TlIn w (· < B) f ka kc → B ≤ w.heap.size →
    Calls Try.prog 35 #[.agg #[.int .i64 k, .int .i64 n, .slice la ls.len lc, .slice ka f.len kc], .slice ap P.len cp, .slice aq Q.len cq] w (QsPost B (qS P Q ⟨k, n, ls, f⟩) w) := by
  induction s with
  | zero => intro f hs; omega
  | succ s ih =>
    intro f hs hsz hlv k n ls la ka lc kc w hlz hsp hsq hls hsl hB
    have IH := Lib.hid ih
    clear ih
    have hlen := hsl.len
    have hlen2 := hls.len
    have HSL := Lib.hid hsl
    have HLS := Lib.hid hls
    have HSP := Lib.hid hsp
    have HSQ := Lib.hid hsq
    have HLV := Lib.hid hlv
    have HS := Lib.hid (TcR.start (w := w) (k := k) (n := n) (.cells #[.int .i64 k, .int .i64 n, .slice la ls.len lc, .slice ka f.len kc] 29) hB)
    clear hsl hls hsp hsq hlv
    go_enter Try.func35, Try.ntmps35
    go_wp2_with fail
    go_loopw [9] (fun jv wr => ∃ (j : Nat) (G rest L' : Fo) (v : Value), jv = .int .i64 j ∧ Hid (ls = G.app rest) ∧ Hid (G.len = j) ∧ Hid (L' = sbF P Q G ∧ L'.len = j ∧ lvOkB P Q G = true) ∧ Hid (TcR w (.cells #[.int .i64 k, .int .i64 n, .slice la ls.len lc, .slice ka f.len kc] 29) (w.heap.size + 1 + 1) B k n L' v wr)) (fun jv _ => ls.len - (intOf jv).toNat)
    case atStart => exact ⟨0, .nil, ls, .nil, _, rfl, Lib.hid rfl, Lib.hid rfl, Lib.hid ⟨rfl, rfl, rfl⟩, HS⟩
    case round =>
      obtain ⟨j, G, rest, L', v, rfl, hf, hj, hL, hR⟩ := hrel
      obtain ⟨hbox, q2, qz, hob, hwr⟩ := hR.out.facts
      obtain ⟨c0, c1, c2, c3⟩ := cells4 hbox
      cases rest with
      | nil =>
        have hjl : ¬ (j : Int) < (ls.len : Int) := by rw [hf.out, foNil3, hj.out]; omega
        have dj : decide ((j : Int) < (ls.len : Int)) = false := by simpa using hjl
        obtain ⟨x, c, rfl, hK⟩ := hR.out.kids
        have HG : Hid (ls = G) := Lib.hid (by rw [hf.out, foNil3])
        have HK := Lib.hid hK
        have HL : Hid (L' = sbF P Q ls ∧ True ∧ lvOkB P Q ls = true) := Lib.hid (by rw [HG.out]; exact ⟨hL.out.1, trivial, hL.out.2.2⟩)
        obtain ⟨W, hW⟩ : ∃ W, W = wr := ⟨_, rfl⟩
        rw [← hW] at c2 c3 HK q2 qz hob hwr hbox ⊢
        clear hK hR hf hj hW hbox c0 c1
        go_wp2_with fail
        go_loopw [12] (fun jv wr => ∃ (j : Nat) (H rest : Ft) (v : Value), jv = .int .i64 j ∧ Hid (f = H.app rest) ∧ Hid (H.len = j) ∧ Hid (qOk P Q H = true) ∧ Hid (TcK w (.cells #[.int .i64 k, .int .i64 n, .slice la ls.len lc, .slice ka f.len kc] 29) (w.heap.size + 1 + 1) W.heap.size B k n L' x c (qF P Q H) v wr)) (fun jv _ => f.len - (intOf jv).toNat)
        case atStart => exact ⟨0, .nil, f, _, rfl, Lib.hid rfl, Lib.hid rfl, Lib.hid rfl, HK⟩
        case round =>
          clear c2 c3 q2 qz hob hwr
          obtain ⟨j, H, rest, v, rfl, hf, hj, hQ, hR⟩ := hrel
          obtain ⟨hbox, ⟨g0, g1, g2, g3, gz⟩, ⟨q0, q1, q2, q3, qz⟩, hob, hwr⟩ := hR.out.facts
          obtain ⟨c0, c1, c2, c3⟩ := cells4 hbox
          cases rest with
          | nil =>
            have hjl' : ¬ (j : Int) < (f.len : Int) := by rw [hf.out, Ft.app_nil, hj.out]; omega
            have dj' : decide ((j : Int) < (f.len : Int)) = false := by simpa using hjl'
            obtain ⟨y, d, rfl, hE⟩ := hR.out.done
            have HE := Lib.hid (QsPost.of (T := ⟨k, n, L', qF P Q H⟩) hE)
            have HF : Hid (qS P Q ⟨k, n, ls, f⟩ = (⟨k, n, L', qF P Q H⟩, true)) := Lib.hid (by
              have e1 : f = H := by rw [hf.out, Ft.app_nil]
              rw [qS_yes (by unfold Tm.qok; show (lvOkB P Q ls && qOk P Q f) = true; rw [HL.out.2.2, e1, hQ.out]; rfl)]
              unfold Tm.q
              rw [HL.out.1, e1])
            clear hE hR hf hbox c0 c1 c2
            go_wp2_with fail
            refine bodyPost_ret (v := .tuple #[.agg #[.int .i64 k, .int .i64 n, .slice x L'.len c, .slice y (qF P Q H).len d], .bool true]) (by simp [results, Try.results35, go_sem, g0, g1, g2, g3]) rfl ?_
            rw [HF.out]
            exact HE.out
          | cons k' n' ls' ks r' =>
            have hjn : j < f.len := by rw [hf.out, Ft.app_len, hj.out]; simp [Ft.len]
            have hjl2 : (j : Int) < (f.len : Int) := by omega
            obtain ⟨bq, o, rfl, hbB, hf0⟩ := HSL.out.some (by omega)
            have hfa : FtIn w (· < B) (.cons k' n' ls' ks r') bq (o + j * 4) := by
              have h1 := hf0
              rw [hf.out] at h1
              rw [← hj.out]
              exact FtIn.behind H _ bq o h1
            obtain ⟨e0, e1, ⟨la', lc', e2, hls'⟩, ⟨ka', kc', e3, hsl'⟩, _⟩ := (hfa.below (hwr.mono hB) _ _ _ hbB).first
            have hfs : f.size = H.size + (ks.size + r'.size + 1) := by rw [hf.out, Ft.app_size]; rfl
            have hks : ks.size < s := by omega
            have hlv' : ls'.size ≤ 1000 ∧ ks.lvsz 1000 := by
              have h1 := HLV.out
              rw [hf.out, Ft.lvsz_app] at h1
              exact ⟨h1.2.1, h1.2.2.1⟩
            have hBr : B ≤ wr.heap.size := Nat.le_trans hB hwr.size
            have HC : Hid (Calls Try.prog 35 #[.agg #[.int .i64 k', .int .i64 n', .slice la' ls'.len lc', .slice ka' ks.len kc'], .slice ap P.len cp, .slice aq Q.len cq] wr (QsPost B (qS P Q ⟨k', n', ls', ks⟩) wr)) :=
              Lib.hid (IH.out ks hks (by omega) hlv'.2 k' n' ls' la' ka' lc' kc' wr hlv'.1 (HSP.out.below (hwr.mono hB)) (HSQ.out.below (hwr.mono hB)) hls' hsl' hBr)
            cases hE : (⟨k', n', ls', ks⟩ : Tm).qok P Q with
            | true =>
              rw [qS_yes hE] at HC
              have hE2 := hE
              unfold Tm.qok at hE2
              have HT : Hid ((⟨k', n', ls', ks⟩ : Tm).q P Q = ⟨k', n', sbF P Q ls', qF P Q ks⟩) := Lib.hid rfl
              have HQ2 : Hid (qF P Q (H.app (.cons k' n' ls' ks .nil)) = (qF P Q H).app ((⟨k', n', ls', ks⟩ : Tm).q P Q).one ∧ qOk P Q (H.app (.cons k' n' ls' ks .nil)) = true) := Lib.hid (by
                refine ⟨by rw [qF_app]; rfl, ?_⟩
                rw [qOk_app, hQ.out]
                show (true && ((lvOkB P Q ls' && qOk P Q ks) && true)) = true
                rw [show (lvOkB P Q ls' && qOk P Q ks) = true from hE2]; rfl)
              have hHl : (qF P Q H).len = j := by rw [qF_len, hj.out]
              generalize (⟨k', n', ls', ks⟩ : Tm).q P Q = T at HC HQ2
              have HAP : Hid (∀ (e : Ending) (w2 : World), QsPost B (T, true) wr e w2 → ∃ (x1 : Option Addr) (y1 : Nat) (x2 : Option Addr) (y2 : Nat), e = .returned (.tuple #[.agg #[.int .i64 T.k, .int .i64 T.n, .slice x1 T.ls.len y1, .slice x2 T.ks.len y2], .bool true]) ∧
                  (w2.alloc (.cells #[.int .i64 T.k, .int .i64 T.n, .slice x1 T.ls.len y1, .slice x2 T.ks.len y2] 29)).cell? ⟨w.heap.size + 1 + 1, 3, none⟩ = some v ∧ w.heap.size + 1 + 1 < w2.heap.size ∧ ((w2.alloc (.cells #[.int .i64 T.k, .int .i64 T.n, .slice x1 T.ls.len y1, .slice x2 T.ks.len y2] 29)).alloc (.cells #[.int .i64 T.k, .int .i64 T.n, .slice x1 T.ls.len y1, .slice x2 T.ks.len y2] 29)).cell? ⟨w.heap.size + 1 + 1, 3, none⟩ = some v ∧
                  ∃ g' cap' w3, Hid ((Builtin.append_ #[27, 27] 27 #[v, .slice (some ⟨w2.heap.size + 1, 0, none⟩) 1 1]).run Try.prog ((w2.alloc (.cells #[.int .i64 T.k, .int .i64 T.n, .slice x1 T.ls.len y1, .slice x2 T.ks.len y2] 29)).alloc (.cells #[.int .i64 T.k, .int .i64 T.n, .slice x1 T.ls.len y1, .slice x2 T.ks.len y2] 29)) = .ok (.slice (some ⟨g', 0, none⟩) (j + 1) cap') w3) ∧
                    w3.cell? ⟨w.heap.size + 1 + 1, 3, none⟩ = some v ∧ (∀ o, w3.frozen? ⟨w.heap.size + 1 + 1, o, none⟩ = false) ∧ Hid (TcK w (.cells #[.int .i64 k, .int .i64 n, .slice la ls.len lc, .slice (some ⟨bq, o, none⟩) f.len kc] 29) (w.heap.size + 1 + 1) W.heap.size B k n L' x c (qF P Q (H.app (.cons k' n' ls' ks .nil))) (.slice (some ⟨g', 0, none⟩) (j + 1) cap') (w3.setCell ⟨w.heap.size + 1 + 1, 3, none⟩ (.slice (some ⟨g', 0, none⟩) (j + 1) cap')))) := Lib.hid (by
                rintro e w2 ⟨x1, y1, x2, y2, rfl, t0, t1, t2⟩
                have hbx : Below w2.heap.size w2 (w2.alloc (.cells #[.int .i64 T.k, .int .i64 T.n, .slice x1 T.ls.len y1, .slice x2 T.ks.len y2] 29)) := (Below.refl _ _).alloc (Nat.le_refl _) _
                have hG1 : (qF P Q H).len ≤ 1000 := by rw [hHl]; have h1 := Ft.len_le_size f; omega
                have hP : ∀ q, (q < B ∨ wr.heap.size ≤ q) ∧ q < w2.heap.size → (q < B ∨ wr.heap.size ≤ q) ∧ q < (w2.alloc (.cells #[.int .i64 T.k, .int .i64 T.n, .slice x1 T.ls.len y1, .slice x2 T.ks.len y2] 29)).heap.size := fun q hq => ⟨hq.1, by simp; omega⟩
                obtain ⟨L2, hlb2, g', cap', w3, hrun, L3, Z3, hN⟩ := TcK.next (T := T) hR.out hG1 ((t0.keep (fun b hb => hbx.block b hb.2)).weak hP) (t1.turn (fun b hb => hbx.block b hb.2) hP) (Below.step t2 hbx (Nat.le_refl _))
                rw [hHl] at hrun hN
                rw [HQ2.out.1]
                simp only [World.size_alloc] at hrun
                exact ⟨x1, y1, x2, y2, rfl, L2, Nat.lt_of_lt_of_le hob t2.size, (World.cell?_of_block (w := w2.alloc (.cells #[.int .i64 T.k, .int .i64 T.n, .slice x1 T.ls.len y1, .slice x2 T.ks.len y2] 29)) (a := ⟨w.heap.size + 1 + 1, 3, none⟩) (heap_old _ _ hlb2)).trans L2, g', cap', w3, Lib.hid hrun, L3, Z3, Lib.hid hN⟩)
              have HSN : Hid (f = (H.app (.cons k' n' ls' ks .nil)).app r') := Lib.hid (by rw [hf.out, Ft.app_assoc]; rfl)
              have HJ := Lib.hid hj.out
              clear hf hR hfa hf0 g0 g1 g2 g3 gz q0 q1 q2 q3 qz hls' hsl' hlv' hfs hbox hE hE2 hHl hQ HT c0 c1 c2
              go_wp2_with fail
              refine HC.out.mono ?_
              intro e w2 hP
              obtain ⟨x1, y1, x2, y2, rfl, L2, hlb2, L2a, g', cap2, w3, HRUN, L3, Z3, HN⟩ := HAP.out e w2 hP
              clear hP HC HAP
              go_wp2_with (at_builtin; refine wpList_append_run (by rfl) _ _ _ (by rfl) (by rfl) (by rfl) HRUN.out ?_)
              go_roundw
              case rel => exact ⟨j + 1, _, r', _, by go_num, HSN, Lib.hid (by rw [Ft.app_len, HJ.out]; rfl), Lib.hid HQ2.out.2, HN⟩
              case measure => simp [intOf]; omega
            | false =>
              rw [qS_no hE] at HC
              have HQN : Hid ((⟨k, n, ls, f⟩ : Tm).qok P Q = false) := Lib.hid (by
                unfold Tm.qok at hE ⊢
                show (lvOkB P Q ls && qOk P Q f) = false
                rw [hf.out, qOk_app]
                show (lvOkB P Q ls && (qOk P Q H && ((lvOkB P Q ls' && qOk P Q ks) && qOk P Q r'))) = false
                rw [show (lvOkB P Q ls' && qOk P Q ks) = false from hE]; simp)
              have HRZ : Hid (∀ (w2 : World) (ob : Obj), Below wr.heap.size wr w2 → ∀ w3, w3 = w2.alloc ob → (w3.cell? ⟨w.heap.size + 1, 0, none⟩ = some (.int .i64 0) ∧ w3.cell? ⟨w.heap.size + 1, 1, none⟩ = some (.int .i64 0) ∧ w3.cell? ⟨w.heap.size + 1, 2, none⟩ = some (.slice none 0 0) ∧ w3.cell? ⟨w.heap.size + 1, 3, none⟩ = some (.slice none 0 0) ∧ (∀ o, w3.frozen? ⟨w.heap.size + 1, o, none⟩ = false)) ∧ w.heap.size + 1 < w2.heap.size ∧ Hid (Below w.heap.size w w3)) := Lib.hid (by
                rintro w2 ob hb w3 rfl
                have hR1 := hR.out.2.1
                have hlt := lt_of_block hR1
                have hb3 := Below.step hb ((Below.refl w2.heap.size w2).alloc (Nat.le_refl _) ob) (Nat.le_refl _)
                have h3 := (hb3.block _ hlt).trans hR1
                exact ⟨⟨cell_at h3 0, cell_at h3 1, cell_at h3 2, cell_at h3 3, free_of h3⟩, Nat.lt_of_lt_of_le hlt hb.size, Lib.hid (Below.step hwr hb3 (Nat.le_refl _))⟩)
              clear hf hR hfa hf0 hls' hsl' hfs hbox g0 g1 g2 g3 gz q0 q1 q2 q3 qz c0 c1 c2 hE hlv'
              go_wp2_with fail
              refine HC.out.mono ?_
              rintro e w2 ⟨x1, y1, x2, y2, rfl, -, -, t2⟩
              go_upto_region 14 with fail
              obtain ⟨w3, hw3⟩ : ∃ w3, w3 = w2.alloc (.cells #[.int .i64 tZ.k, .int .i64 tZ.n, .slice x1 tZ.ls.len y1, .slice x2 tZ.ks.len y2] 29) := ⟨_, rfl⟩
              obtain ⟨⟨g0, g1, g2, g3, gz⟩, hlb, HB3⟩ := HRZ.out w2 (.cells #[.int .i64 tZ.k, .int .i64 tZ.n, .slice x1 tZ.ls.len y1, .slice x2 tZ.ks.len y2] 29) t2 w3 hw3
              have hlb3 : w.heap.size + 1 < w3.heap.size := by rw [hw3]; simp; omega
              rw [← hw3]
              clear t2 hw3 hlb
              go_wp2_with fail
              refine bodyPost_ret (v := .tuple #[.agg #[.int .i64 0, .int .i64 0, .slice none 0 0, .slice none 0 0], .bool false]) (by simp [results, Try.results35, go_sem, g0, g1, g2, g3]) rfl ?_
              rw [qS_no HQN.out]
              exact QsPost.no ((((HB3.out.setCell (by simp) _).setCell (by simp) _).setCell (by simp) _).setCell (by simp) _)
      | cons k' n' ks r' =>
        have hjn : j < ls.len := by rw [hf.out, Fo.app_len, hj.out]; simp [Fo.len]
        have hjl : (j : Int) < (ls.len : Int) := by omega
        obtain ⟨b, o, rfl, hbB, hf0⟩ := HLS.out.some (by omega)
        have hfa : FoIn w (· < B) (.cons k' n' ks r') b (o + j * 3) := by
          have h1 := hf0
          rw [hf.out] at h1
          rw [← hj.out]
          exact FoIn.behind3 G _ b o h1
        obtain ⟨e0, e1, ⟨a', cap', e2, hsl'⟩, _⟩ := (hfa.below (hwr.mono hB) _ _ _ hbB).first
        have hfs : ls.size = G.size + (ks.size + r'.size + 1) := by rw [hf.out, Fo.app_size]; rfl
        have hBr : B ≤ wr.heap.size := Nat.le_trans hB hwr.size
        have HC : Hid (Calls Try.prog 54 #[.agg #[.int .i64 k', .int .i64 n', .slice a' ks.len cap'], .slice ap P.len cp, .slice aq Q.len cq] wr (SuPostB B (subT P Q k' n' ks) (subE P Q k' n' ks) wr)) :=
          Lib.hid (r5Sub_off P Q k' n' ks a' ap aq cap' cp cq B wr hsl' (HSP.out.below (hwr.mono hB)) (HSQ.out.below (hwr.mono hB)) hBr)
        by_cases hE : subE P Q k' n' ks = 0
        · have hT : subT P Q k' n' ks = sb1 P Q k' n' (sbF P Q ks) := by unfold subT; rw [if_pos hE]
          have HAP : Hid (∀ (e : Ending) (w2 : World), SuPostB B (subT P Q k' n' ks) (subE P Q k' n' ks) wr e w2 → ∃ (k2 n2 : Int) (F2 : Fo) (x2 : Option Addr) (c2 : Nat), e = .returned (.tuple #[.agg #[.int .i64 k2, .int .i64 n2, .slice x2 F2.len c2], .int .i64 0]) ∧
              (w2.alloc (.cells #[.int .i64 k2, .int .i64 n2, .slice x2 F2.len c2] 38)).cell? ⟨w.heap.size + 1 + 1, 2, none⟩ = some v ∧ w.heap.size + 1 + 1 < w2.heap.size ∧ ((w2.alloc (.cells #[.int .i64 k2, .int .i64 n2, .slice x2 F2.len c2] 38)).alloc (.cells #[.int .i64 k2, .int .i64 n2, .slice x2 F2.len c2] 38)).cell? ⟨w.heap.size + 1 + 1, 2, none⟩ = some v ∧
              ∃ g' cap' w3, Hid ((Builtin.append_ #[26, 26] 26 #[v, .slice (some ⟨w2.heap.size + 1, 0, none⟩) 1 1]).run Try.prog ((w2.alloc (.cells #[.int .i64 k2, .int .i64 n2, .slice x2 F2.len c2] 38)).alloc (.cells #[.int .i64 k2, .int .i64 n2, .slice x2 F2.len c2] 38)) = .ok (.slice (some ⟨g', 0, none⟩) (j + 1) cap') w3) ∧
                w3.cell? ⟨w.heap.size + 1 + 1, 2, none⟩ = some v ∧ (∀ o, w3.frozen? ⟨w.heap.size + 1 + 1, o, none⟩ = false) ∧
                Hid (L'.app (.cons k2 n2 F2 .nil) = sbF P Q (G.app (.cons k' n' ks .nil)) ∧ (L'.app (.cons k2 n2 F2 .nil)).len = j + 1 ∧ lvOkB P Q (G.app (.cons k' n' ks .nil)) = true) ∧
                Hid (TcR w (.cells #[.int .i64 k, .int .i64 n, .slice (some ⟨b, o, none⟩) ls.len lc, .slice ka f.len kc] 29) (w.heap.size + 1 + 1) B k n (L'.app (.cons k2 n2 F2 .nil)) (.slice (some ⟨g', 0, none⟩) (j + 1) cap') (w3.setCell ⟨w.heap.size + 1 + 1, 2, none⟩ (.slice (some ⟨g', 0, none⟩) (j + 1) cap')))) := Lib.hid (by
            rintro e w2 ⟨k2, n2, F2, x2, c2, hT2, rfl, t1, t2⟩
            rw [hE]
            rw [hT] at hT2
            have hbx : Below w2.heap.size w2 (w2.alloc (.cells #[.int .i64 k2, .int .i64 n2, .slice x2 F2.len c2] 38)) := (Below.refl _ _).alloc (Nat.le_refl _) _
            have hG1 : L'.len ≤ 1000 := by rw [hL.out.2.1]; have := Fo.len_le_size ls; omega
            have t3 : SlIn (w2.alloc (.cells #[.int .i64 k2, .int .i64 n2, .slice x2 F2.len c2] 38)) (fun b => (b < B ∨ wr.heap.size ≤ b) ∧ b < (w2.alloc (.cells #[.int .i64 k2, .int .i64 n2, .slice x2 F2.len c2] 38)).heap.size) F2 x2 c2 :=
              (t1.keep (fun b hb => hbx.block b hb.2)).weak (fun b hb => ⟨hb.1, by simp; omega⟩)
            obtain ⟨L2, hlb2, g', cap', w3, hrun, L3, Z3, hN⟩ := TcR.next (k' := k2) (n' := n2) hR.out hG1 t3 (Below.step t2 hbx (Nat.le_refl _))
            rw [hL.out.2.1] at hrun hN
            simp only [World.size_alloc] at hrun
            have hob2 := Nat.lt_of_lt_of_le hob t2.size
            refine ⟨k2, n2, F2, x2, c2, rfl, L2, hob2, (World.cell?_of_block (w := w2.alloc (.cells #[.int .i64 k2, .int .i64 n2, .slice x2 F2.len c2] 38)) (a := ⟨w.heap.size + 1 + 1, 2, none⟩) (heap_old _ _ hlb2)).trans L2, g', cap', w3, Lib.hid hrun, L3, Z3, Lib.hid ⟨?_, ?_, ?_⟩, Lib.hid hN⟩
            · rw [sbF_app, hL.out.1]
              show _ = (sbF P Q G).app ((sb1 P Q k' n' (sbF P Q ks)).app .nil)
              rw [hT2, foNil3]
            · rw [Fo.app_len, hL.out.2.1]; rfl
            · rw [lvOk_app, hL.out.2.2]
              simp [lvOkB, hE])
          have HSN : Hid (ls = (G.app (.cons k' n' ks .nil)).app r') := Lib.hid (by rw [hf.out, foAss3]; rfl)
          have HJ := Lib.hid hj.out
          clear hf hR hfa hf0 qz hsl' hfs hbox hE hT c0 c1 c3
          go_wp2_with fail
          refine HC.out.mono ?_
          intro e w2 hP
          obtain ⟨k2, n2, F2, x2, c2', rfl, L2, hlb2, L2a, g', cap2, w3, HRUN, L3, Z3, HL3, HN⟩ := HAP.out e w2 hP
          clear hP HC HAP
          go_wp2_with (at_builtin; refine wpList_append_run (by rfl) _ _ _ (by rfl) (by rfl) (by rfl) HRUN.out ?_)
          go_roundw
          case rel => exact ⟨j + 1, _, r', _, _, by go_num, HSN, Lib.hid (by rw [Fo.app_len, HJ.out]; rfl), HL3, HN⟩
          case measure => simp [intOf]; omega
        · have HQN : Hid ((⟨k, n, ls, f⟩ : Tm).qok P Q = false) := Lib.hid (by
            unfold Tm.qok
            show (lvOkB P Q ls && _) = false
            rw [hf.out, lvOk_app]
            simp [lvOkB, hE])
          have HRZ : Hid (∀ (w2 : World) (ob : Obj), Below wr.heap.size wr w2 → ∀ w3, w3 = w2.alloc ob → (w3.cell? ⟨w.heap.size + 1, 0, none⟩ = some (.int .i64 0) ∧ w3.cell? ⟨w.heap.size + 1, 1, none⟩ = some (.int .i64 0) ∧ w3.cell? ⟨w.heap.size + 1, 2, none⟩ = some (.slice none 0 0) ∧ w3.cell? ⟨w.heap.size + 1, 3, none⟩ = some (.slice none 0 0) ∧ (∀ o, w3.frozen? ⟨w.heap.size + 1, o, none⟩ = false)) ∧ w.heap.size + 1 < w2.heap.size ∧ Hid (Below w.heap.size w w3)) := Lib.hid (by
            rintro w2 ob hb w3 rfl
            have hR1 := hR.out.2.1
            have hlt := lt_of_block hR1
            have hb3 := Below.step hb ((Below.refl w2.heap.size w2).alloc (Nat.le_refl _) ob) (Nat.le_refl _)
            have h3 := (hb3.block _ hlt).trans hR1
            exact ⟨⟨cell_at h3 0, cell_at h3 1, cell_at h3 2, cell_at h3 3, free_of h3⟩, Nat.lt_of_lt_of_le hlt hb.size, Lib.hid (Below.step hwr hb3 (Nat.le_refl _))⟩)
          generalize subE P Q k' n' ks = E at HC hE
          generalize subT P Q k' n' ks = T2 at HC
          have hE1 : (E == 0) = false := beq_eq_false_iff_ne.2 hE
          clear hf hR hfa hf0 hsl' hfs hbox c0 c1 c3
          go_wp2_with fail
          refine HC.out.mono ?_
          rintro e w2 ⟨k2, n2, F2, x2, c2', -, rfl, -, t2⟩
          go_upto_region 7 with fail
          obtain ⟨w3, hw3⟩ : ∃ w3, w3 = w2.alloc (.cells #[.int .i64 k2, .int .i64 n2, .slice x2 F2.len c2'] 38) := ⟨_, rfl⟩
          obtain ⟨⟨g0, g1, g2, g3, gz⟩, hlb, HB3⟩ := HRZ.out w2 (.cells #[.int .i64 k2, .int .i64 n2, .slice x2 F2.len c2'] 38) t2 w3 hw3
          have hlb3 : w.heap.size + 1 < w3.heap.size := by rw [hw3]; simp; omega
          rw [← hw3]
          clear t2 hw3 hlb
          go_wp2_with fail
          refine bodyPost_ret (v := .tuple #[.agg #[.int .i64 0, .int .i64 0, .slice none 0 0, .slice none 0 0], .bool false]) (by simp [results, Try.results35, go_sem, g0, g1, g2, g3]) rfl ?_
          rw [qS_no HQN.out]
          exact QsPost.no ((((HB3.out.setCell (by simp) _).setCell (by simp) _).setCell (by simp) _).setCell (by simp) _)
end Go.Proofs.Ytcnhfoppfihhiaa
