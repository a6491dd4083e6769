/- The contract of the program's own replaced: each level of a term with others put in, or that one is too great; the answer lies in the blocks of what was given, or in new ones. No condition but that the term and the levels lie in memory, and that no row is longer than a thousand. -/
import Derived.Test.YtcnhfoppfihhiaaQsub
import Derived.Test.YtcnhfoppfihhiaaZP4
import Derived.Test.YtcnhfoppfihhiaaTspec
import Derived.MapKept
import Derived.LoopTactic
import Derived.WalkKit
import Derived.ProofKit
import Derived.Test.YtcnhfoppfihhiaaRight
import Derived.Deep.QuietTactic
import Derived.BigQuiet
import Derived.RegionTactic
import Derived.BigRegion
import Derived.ChangeAlike
import Derived.Deep.RegionWith
import Derived.Deep.RegionHeld3
import Derived.Test.YtcnhfoppfihhiaaQtop
import Derived.Test.YtcnhfoppfihhiaaZP0
import Derived.RangeFuncCalls
import Derived.RangeFuncFrom
import Derived.RangeFuncLeaves
import Derived.Shelf.Abstract
namespace Go.Proofs.Ytcnhfoppfihhiaa
open Go.RowKit

/-- What replaced answers: the term, and the error. -/
def qRp (P Q : Fo) (T : Tm) : Tm × Int := if T.qok P Q = true then (T.q P Q, 0) else (tZ, 2)
theorem qRp_yes {P Q : Fo} {T : Tm} (h : T.qok P Q = true) : qRp P Q T = (T.q P Q, 0) := if_pos h
theorem qRp_no {P Q : Fo} {T : Tm} (h : T.qok P Q = false) : qRp P Q T = (tZ, 2) := by unfold qRp; rw [if_neg (by rw [h]; simp)]
/-- What is answered, in memory: below B, or in new blocks. -/
def QrPost (B : Nat) (A : Tm × Int) (w : World) (e : Ending) (w' : World) : Prop :=
  ∃ (la : Option Addr) (lc : Nat) (x : Option Addr) (c : Nat), e = .returned (.tuple #[.agg #[.int .i64 A.1.k, .int .i64 A.1.n, .slice la A.1.ls.len lc, .slice x A.1.ks.len c], .int .i64 A.2]) ∧ SlIn w' (fun b => (b < B ∨ w.heap.size ≤ b) ∧ b < w'.heap.size) A.1.ls la lc ∧ TlIn w' (fun b => (b < B ∨ w.heap.size ≤ b) ∧ b < w'.heap.size) A.1.ks x c ∧ Below w.heap.size w w'
theorem QrPost.no {B : Nat} {E : Int} {w w' : World} (h : Below w.heap.size w w') : QrPost B (tZ, E) w (.returned (.tuple #[.agg #[.int .i64 0, .int .i64 0, .slice none 0 0, .slice none 0 0], .int .i64 E])) w' := ⟨none, 0, none, 0, rfl, SlIn.none _ _, TlIn.none _ _, h⟩
theorem QrPost.of {B : Nat} {T : Tm} {w w' : World} {la x : Option Addr} {lc c : Nat} (h : TmPost B T w (.returned (.agg #[.int .i64 T.k, .int .i64 T.n, .slice la T.ls.len lc, .slice x T.ks.len c])) w') : QrPost B (T, 0) w (.returned (.tuple #[.agg #[.int .i64 T.k, .int .i64 T.n, .slice la T.ls.len lc, .slice x T.ks.len c], .int .i64 0])) w' := by
  obtain ⟨la', lc', x', c', he, h1, h2, h3⟩ := h
  simp only [Ending.returned.injEq, Value.agg.injEq, Array.mk.injEq, List.cons.injEq, Value.slice.injEq, true_and, and_true] at he
  obtain ⟨⟨rfl, rfl⟩, rfl, rfl⟩ := he
  exact ⟨_, _, _, _, rfl, h1, h2, h3⟩
/-- A row of levels, wherever it lies; their Kids lie below B. -/
def RwIn (w : World) (B : Nat) (f : Fo) (a : Option Addr) (cap : Nat) : Prop := f.len ≤ cap ∧ cap ≤ maxLen ∧ (0 < f.len → ∃ b o, a = some ⟨b, o, none⟩ ∧ b < w.heap.size ∧ FoIn w (· < B) f b o)
theorem RwIn.of {w : World} {B : Nat} {f : Fo} {a : Option Addr} {cap : Nat} (h : SlIn w (· < B) f a cap) (hB : B ≤ w.heap.size) : RwIn w B f a cap := by
  obtain ⟨h1, h2, _, h4⟩ := h
  refine ⟨h1, h2, fun hx => ?_⟩
  obtain ⟨b, o, e, hb, hf⟩ := h4 hx
  exact ⟨b, o, e, Nat.lt_of_lt_of_le hb hB, hf⟩
theorem RwIn.later {w w' : World} {B : Nat} {f : Fo} {a : Option Addr} {cap : Nat} (h : RwIn w B f a cap) (hB : B ≤ w.heap.size) (hb : Below w.heap.size w w') : RwIn w' B f a cap := by
  obtain ⟨h1, h2, h4⟩ := h
  refine ⟨h1, h2, fun hx => ?_⟩
  obtain ⟨b, o, e, hl, hf⟩ := h4 hx
  exact ⟨b, o, e, Nat.lt_of_lt_of_le hl hb.size, FoIn.cells (fun q hq => hb.block q (Nat.lt_of_lt_of_le hq hB)) f b o (fun j _ => bcell hb _ _ hl) hf⟩
theorem RwIn.len {w : World} {B : Nat} {f : Fo} {a : Option Addr} {cap : Nat} (h : RwIn w B f a cap) : f.len ≤ 9223372036854775807 := by
  have h1 := h.1
  have h2 := h.2.1
  unfold maxLen at h2
  omega
theorem foIn_low {w w' : World} {B b o : Nat} {f : Fo} (hb : Below w.heap.size w w') (hB : B ≤ w.heap.size) (hl : b < w.heap.size) (hf : FoIn w (· < B) f b o) : FoIn w' (· < B) f b o :=
  FoIn.cells (fun q hq => hb.block q (Nat.lt_of_lt_of_le hq hB)) f b o (fun _ _ => bcell hb _ _ hl) hf

set_option maxRecDepth 100000 in
set_option maxHeartbeats 8000000 in
theorem qRep_any (P Q : Fo) (ap aq : Option Addr) (cp cq B : Nat) (s : Nat) : ∀ (f : Ft), f.size < s → f.size ≤ 1000 → f.lvsz 1000 → ∀ (k n : Int) (ls : Fo) (la ka : Option Addr) (lc kc : Nat) (w : World), ls.size ≤ 1000 → SlIn w (· < B) P ap cp → SlIn w (· < B) Q aq cq → RwIn w B ls la lc → TlIn w (· < B) f ka kc → B ≤ w.heap.size →
    Calls Try.prog 26 #[.agg #[.int .i64 k, .int .i64 n, .slice la ls.len lc, .slice ka f.len kc], .slice ap P.len cp, .slice aq Q.len cq] w (QrPost B (qRp P Q ⟨k, n, ls, f⟩) w) := by
  induction s with
  | zero => intro f hs; omega
  | succ s ih =>
    intro f hs hsz hlv k n ls la ka lc kc w hlz hsp hsq hls hsl hB
    have IH := Lib.hid ih
    clear ih
    have hlen := hsl.len
    have hlen2 := hls.len
    have HSL := Lib.hid hsl
    have HLS := Lib.hid hls
    have HSP := Lib.hid hsp
    have HSQ := Lib.hid hsq
    have HLV := Lib.hid hlv
    have HS := Lib.hid (TcR.start (w := w) (k := k) (n := n) (.cells #[.int .i64 k, .int .i64 n, .slice la ls.len lc, .slice ka f.len kc] 29) hB)
    clear hsl hls hsp hsq hlv
    go_enter Try.func26, Try.ntmps26
    go_wp2_with fail
    go_loopw [25] (fun jv wr => ∃ (j : Nat) (G rest L' : Fo) (v : Value), jv = .int .i64 j ∧ Hid (ls = G.app rest) ∧ Hid (G.len = j) ∧ Hid (L' = sbF P Q G ∧ L'.len = j ∧ lvOkB P Q G = true) ∧ Hid (TcR w (.cells #[.int .i64 k, .int .i64 n, .slice la ls.len lc, .slice ka f.len kc] 29) (w.heap.size + 1 + 1) B k n L' v wr)) (fun jv _ => ls.len - (intOf jv).toNat)
    case atStart => exact ⟨0, .nil, ls, .nil, _, rfl, Lib.hid rfl, Lib.hid rfl, Lib.hid ⟨rfl, rfl, rfl⟩, HS⟩
    case round =>
      obtain ⟨j, G, rest, L', v, rfl, hf, hj, hL, hR⟩ := hrel
      obtain ⟨hbox, q2, qz, hob, hwr⟩ := hR.out.facts
      obtain ⟨c0, c1, c2, c3⟩ := cells4 hbox
      cases rest with
      | nil =>
        have hjl : ¬ (j : Int) < (ls.len : Int) := by rw [hf.out, foNil3, hj.out]; omega
        have dj : decide ((j : Int) < (ls.len : Int)) = false := by simpa using hjl
        obtain ⟨x, c, rfl, hK⟩ := hR.out.kids
        have HG : Hid (ls = G) := Lib.hid (by rw [hf.out, foNil3])
        have HK := Lib.hid hK
        have HL : Hid (L' = sbF P Q ls ∧ True ∧ lvOkB P Q ls = true) := Lib.hid (by rw [HG.out]; exact ⟨hL.out.1, trivial, hL.out.2.2⟩)
        obtain ⟨W, hW⟩ : ∃ W, W = wr := ⟨_, rfl⟩
        rw [← hW] at c2 c3 HK q2 qz hob hwr hbox ⊢
        clear hK hR hf hj hW hbox c0 c1
        go_wp2_with fail
        go_loopw [49] (fun jv wr => ∃ (j : Nat) (H rest : Ft) (v : Value), jv = .int .i64 j ∧ Hid (f = H.app rest) ∧ Hid (H.len = j) ∧ Hid (qOk P Q H = true) ∧ Hid (TcK w (.cells #[.int .i64 k, .int .i64 n, .slice la ls.len lc, .slice ka f.len kc] 29) (w.heap.size + 1 + 1) W.heap.size B k n L' x c (qF P Q H) v wr)) (fun jv _ => f.len - (intOf jv).toNat)
        case atStart => exact ⟨0, .nil, f, _, rfl, Lib.hid rfl, Lib.hid rfl, Lib.hid rfl, HK⟩
        case round =>
          clear c2 c3 q2 qz hob hwr
          obtain ⟨j, H, rest, v, rfl, hf, hj, hQ, hR⟩ := hrel
          obtain ⟨hbox, ⟨g0, g1, g2, g3, gz⟩, ⟨q0, q1, q2, q3, qz⟩, hob, hwr⟩ := hR.out.facts
          obtain ⟨c0, c1, c2, c3⟩ := cells4 hbox
          cases rest with
          | nil =>
            have hjl' : ¬ (j : Int) < (f.len : Int) := by rw [hf.out, Ft.app_nil, hj.out]; omega
            have dj' : decide ((j : Int) < (f.len : Int)) = false := by simpa using hjl'
            obtain ⟨y, d, rfl, hE⟩ := hR.out.done
            have HE := Lib.hid (QrPost.of (T := ⟨k, n, L', qF P Q H⟩) hE)
            have HF : Hid (qRp P Q ⟨k, n, ls, f⟩ = (⟨k, n, L', qF P Q H⟩, 0)) := Lib.hid (by
              have e1 : f = H := by rw [hf.out, Ft.app_nil]
              rw [qRp_yes (by unfold Tm.qok; show (lvOkB P Q ls && qOk P Q f) = true; rw [HL.out.2.2, e1, hQ.out]; rfl)]
              unfold Tm.q
              rw [HL.out.1, e1])
            clear hE hR hf hbox c0 c1 c2
            go_wp2_with fail
            refine bodyPost_ret (v := .tuple #[.agg #[.int .i64 k, .int .i64 n, .slice x L'.len c, .slice y (qF P Q H).len d], (.int .i64 0)]) (by simp [results, Try.results26, go_sem, g0, g1, g2, g3]) rfl ?_
            rw [HF.out]
            exact HE.out
          | cons k' n' ls' ks r' =>
            have hjn : j < f.len := by rw [hf.out, Ft.app_len, hj.out]; simp [Ft.len]
            have hjl2 : (j : Int) < (f.len : Int) := by omega
            obtain ⟨bq, o, rfl, hbB, hf0⟩ := HSL.out.some (by omega)
            have hfa : FtIn w (· < B) (.cons k' n' ls' ks r') bq (o + j * 4) := by
              have h1 := hf0
              rw [hf.out] at h1
              rw [← hj.out]
              exact FtIn.behind H _ bq o h1
            obtain ⟨e0, e1, ⟨la', lc', e2, hls'⟩, ⟨ka', kc', e3, hsl'⟩, _⟩ := (hfa.below (hwr.mono hB) _ _ _ hbB).first
            have hfs : f.size = H.size + (ks.size + r'.size + 1) := by rw [hf.out, Ft.app_size]; rfl
            have hks : ks.size < s := by omega
            have hlv' : ls'.size ≤ 1000 ∧ ks.lvsz 1000 := by
              have h1 := HLV.out
              rw [hf.out, Ft.lvsz_app] at h1
              exact ⟨h1.2.1, h1.2.2.1⟩
            have hBr : B ≤ wr.heap.size := Nat.le_trans hB hwr.size
            have hbv : Below wr.heap.size wr (wr.alloc (.cells #[.int .i64 k', .int .i64 n', .slice la' ls'.len lc', .slice ka' ks.len kc'] 29)) := (Below.refl _ _).alloc (Nat.le_refl _) _
            have hBv : B ≤ (wr.alloc (.cells #[.int .i64 k', .int .i64 n', .slice la' ls'.len lc', .slice ka' ks.len kc'] 29)).heap.size := Nat.le_trans hBr hbv.size
            have hvb := Below.step hwr hbv (Nat.le_refl _)
            have HC : Hid (Calls Try.prog 26 #[.agg #[.int .i64 k', .int .i64 n', .slice la' ls'.len lc', .slice ka' ks.len kc'], .slice ap P.len cp, .slice aq Q.len cq] (wr.alloc (.cells #[.int .i64 k', .int .i64 n', .slice la' ls'.len lc', .slice ka' ks.len kc'] 29)) (QrPost B (qRp P Q ⟨k', n', ls', ks⟩) (wr.alloc (.cells #[.int .i64 k', .int .i64 n', .slice la' ls'.len lc', .slice ka' ks.len kc'] 29)))) :=
              Lib.hid (IH.out ks hks (by omega) hlv'.2 k' n' ls' la' ka' lc' kc' (wr.alloc (.cells #[.int .i64 k', .int .i64 n', .slice la' ls'.len lc', .slice ka' ks.len kc'] 29)) hlv'.1 (HSP.out.below (hvb.mono hB)) (HSQ.out.below (hvb.mono hB)) (RwIn.of (hls'.below (hbv.mono hBr)) hBv) (hsl'.below (hbv.mono hBr)) hBv)
            cases hE : (⟨k', n', ls', ks⟩ : Tm).qok P Q with
            | true =>
              rw [qRp_yes hE] at HC
              have hE2 := hE
              unfold Tm.qok at hE2
              have HT : Hid ((⟨k', n', ls', ks⟩ : Tm).q P Q = ⟨k', n', sbF P Q ls', qF P Q ks⟩) := Lib.hid rfl
              have HQ2 : Hid (qF P Q (H.app (.cons k' n' ls' ks .nil)) = (qF P Q H).app ((⟨k', n', ls', ks⟩ : Tm).q P Q).one ∧ qOk P Q (H.app (.cons k' n' ls' ks .nil)) = true) := Lib.hid (by
                refine ⟨by rw [qF_app]; rfl, ?_⟩
                rw [qOk_app, hQ.out]
                show (true && ((lvOkB P Q ls' && qOk P Q ks) && true)) = true
                rw [show (lvOkB P Q ls' && qOk P Q ks) = true from hE2]; rfl)
              have hHl : (qF P Q H).len = j := by rw [qF_len, hj.out]
              generalize (⟨k', n', ls', ks⟩ : Tm).q P Q = T at HC HQ2
              have HAP : Hid (∀ (e : Ending) (w2 : World), QrPost B (T, 0) (wr.alloc (.cells #[.int .i64 k', .int .i64 n', .slice la' ls'.len lc', .slice ka' ks.len kc'] 29)) e w2 → ∃ (x1 : Option Addr) (y1 : Nat) (x2 : Option Addr) (y2 : Nat), e = .returned (.tuple #[.agg #[.int .i64 T.k, .int .i64 T.n, .slice x1 T.ls.len y1, .slice x2 T.ks.len y2], (.int .i64 0)]) ∧
                  (w2.alloc (.cells #[.int .i64 T.k, .int .i64 T.n, .slice x1 T.ls.len y1, .slice x2 T.ks.len y2] 29)).cell? ⟨w.heap.size + 1 + 1, 3, none⟩ = some v ∧ w.heap.size + 1 + 1 < w2.heap.size ∧ ((w2.alloc (.cells #[.int .i64 T.k, .int .i64 T.n, .slice x1 T.ls.len y1, .slice x2 T.ks.len y2] 29)).alloc (.cells #[.int .i64 T.k, .int .i64 T.n, .slice x1 T.ls.len y1, .slice x2 T.ks.len y2] 29)).cell? ⟨w.heap.size + 1 + 1, 3, none⟩ = some v ∧
                  ∃ g' cap' w3, Hid ((Builtin.append_ #[27, 27] 27 #[v, .slice (some ⟨w2.heap.size + 1, 0, none⟩) 1 1]).run Try.prog ((w2.alloc (.cells #[.int .i64 T.k, .int .i64 T.n, .slice x1 T.ls.len y1, .slice x2 T.ks.len y2] 29)).alloc (.cells #[.int .i64 T.k, .int .i64 T.n, .slice x1 T.ls.len y1, .slice x2 T.ks.len y2] 29)) = .ok (.slice (some ⟨g', 0, none⟩) (j + 1) cap') w3) ∧
                    w3.cell? ⟨w.heap.size + 1 + 1, 3, none⟩ = some v ∧ (∀ o, w3.frozen? ⟨w.heap.size + 1 + 1, o, none⟩ = false) ∧ Hid (TcK w (.cells #[.int .i64 k, .int .i64 n, .slice la ls.len lc, .slice (some ⟨bq, o, none⟩) f.len kc] 29) (w.heap.size + 1 + 1) W.heap.size B k n L' x c (qF P Q (H.app (.cons k' n' ls' ks .nil))) (.slice (some ⟨g', 0, none⟩) (j + 1) cap') (w3.setCell ⟨w.heap.size + 1 + 1, 3, none⟩ (.slice (some ⟨g', 0, none⟩) (j + 1) cap')))) := Lib.hid (by
                rintro e w2 ⟨x1, y1, x2, y2, rfl, t0, t1, t2⟩
                have hbx : Below w2.heap.size w2 (w2.alloc (.cells #[.int .i64 T.k, .int .i64 T.n, .slice x1 T.ls.len y1, .slice x2 T.ks.len y2] 29)) := (Below.refl _ _).alloc (Nat.le_refl _) _
                have t2 := Below.step hbv t2 (Nat.le_refl _)
                have hzv : wr.heap.size ≤ (wr.alloc (.cells #[.int .i64 k', .int .i64 n', .slice la' ls'.len lc', .slice ka' ks.len kc'] 29)).heap.size := hbv.size
                have hG1 : (qF P Q H).len ≤ 1000 := by rw [hHl]; have h1 := Ft.len_le_size f; omega
                have hP : ∀ q, (q < B ∨ (wr.alloc (.cells #[.int .i64 k', .int .i64 n', .slice la' ls'.len lc', .slice ka' ks.len kc'] 29)).heap.size ≤ q) ∧ q < w2.heap.size → (q < B ∨ wr.heap.size ≤ q) ∧ q < (w2.alloc (.cells #[.int .i64 T.k, .int .i64 T.n, .slice x1 T.ls.len y1, .slice x2 T.ks.len y2] 29)).heap.size := fun q hq => ⟨by have := hq.1; omega, by simp; omega⟩
                obtain ⟨L2, hlb2, g', cap', w3, hrun, L3, Z3, hN⟩ := TcK.next (T := T) hR.out hG1 ((t0.keep (fun b hb => hbx.block b hb.2)).weak hP) (t1.turn (fun b hb => hbx.block b hb.2) hP) (Below.step t2 hbx (Nat.le_refl _))
                rw [hHl] at hrun hN
                rw [HQ2.out.1]
                simp only [World.size_alloc] at hrun
                exact ⟨x1, y1, x2, y2, rfl, L2, Nat.lt_of_lt_of_le hob t2.size, (World.cell?_of_block (w := w2.alloc (.cells #[.int .i64 T.k, .int .i64 T.n, .slice x1 T.ls.len y1, .slice x2 T.ks.len y2] 29)) (a := ⟨w.heap.size + 1 + 1, 3, none⟩) (heap_old _ _ hlb2)).trans L2, g', cap', w3, Lib.hid hrun, L3, Z3, Lib.hid hN⟩)
              have HSN : Hid (f = (H.app (.cons k' n' ls' ks .nil)).app r') := Lib.hid (by rw [hf.out, Ft.app_assoc]; rfl)
              have HJ := Lib.hid hj.out
              clear hf hR hfa hf0 g0 g1 g2 g3 gz q0 q1 q2 q3 qz hls' hsl' hlv' hfs hbox hE hE2 hHl hQ HT c0 c1 c2 c3 hbv hvb hBv
              go_wp2_with fail
              refine HC.out.mono ?_
              intro e w2 hP
              obtain ⟨x1, y1, x2, y2, rfl, L2, hlb2, L2a, g', cap2, w3, HRUN, L3, Z3, HN⟩ := HAP.out e w2 hP
              clear hP HC HAP
              go_wp2_with (at_builtin; refine wpList_append_run (by rfl) _ _ _ (by rfl) (by rfl) (by rfl) HRUN.out ?_)
              go_roundw
              case rel => exact ⟨j + 1, _, r', _, by go_num, HSN, Lib.hid (by rw [Ft.app_len, HJ.out]; rfl), Lib.hid HQ2.out.2, HN⟩
              case measure => simp [intOf]; omega
            | false =>
              rw [qRp_no hE] at HC
              have HQN : Hid ((⟨k, n, ls, f⟩ : Tm).qok P Q = false) := Lib.hid (by
                unfold Tm.qok at hE ⊢
                show (lvOkB P Q ls && qOk P Q f) = false
                rw [hf.out, qOk_app]
                show (lvOkB P Q ls && (qOk P Q H && ((lvOkB P Q ls' && qOk P Q ks) && qOk P Q r'))) = false
                rw [show (lvOkB P Q ls' && qOk P Q ks) = false from hE]; simp)
              have HRZ : Hid (∀ (w2 : World) (ob : Obj), Below wr.heap.size wr w2 → ∀ w3, w3 = w2.alloc ob → (w3.cell? ⟨w.heap.size + 1, 0, none⟩ = some (.int .i64 0) ∧ w3.cell? ⟨w.heap.size + 1, 1, none⟩ = some (.int .i64 0) ∧ w3.cell? ⟨w.heap.size + 1, 2, none⟩ = some (.slice none 0 0) ∧ w3.cell? ⟨w.heap.size + 1, 3, none⟩ = some (.slice none 0 0) ∧ (∀ o, w3.frozen? ⟨w.heap.size + 1, o, none⟩ = false)) ∧ w.heap.size + 1 < w2.heap.size ∧ Hid (Below w.heap.size w w3)) := Lib.hid (by
                rintro w2 ob hb w3 rfl
                have hR1 := hR.out.2.1
                have hlt := lt_of_block hR1
                have hb3 := Below.step hb ((Below.refl w2.heap.size w2).alloc (Nat.le_refl _) ob) (Nat.le_refl _)
                have h3 := (hb3.block _ hlt).trans hR1
                exact ⟨⟨cell_at h3 0, cell_at h3 1, cell_at h3 2, cell_at h3 3, free_of h3⟩, Nat.lt_of_lt_of_le hlt hb.size, Lib.hid (Below.step hwr hb3 (Nat.le_refl _))⟩)
              have HBV := Lib.hid hbv
              clear hf hR hfa hf0 hls' hsl' hfs hbox g0 g1 g2 g3 gz q0 q1 q2 q3 qz c0 c1 c2 c3 hE hlv' hbv hvb hBv
              go_wp2_with fail
              refine HC.out.mono ?_
              rintro e w2 ⟨x1, y1, x2, y2, rfl, -, -, t2'⟩
              have t2 := Below.step HBV.out t2' (Nat.le_refl _)
              clear t2'
              go_upto_region 15 with fail
              obtain ⟨w3, hw3⟩ : ∃ w3, w3 = w2.alloc (.cells #[.int .i64 tZ.k, .int .i64 tZ.n, .slice x1 tZ.ls.len y1, .slice x2 tZ.ks.len y2] 29) := ⟨_, rfl⟩
              obtain ⟨⟨g0, g1, g2, g3, gz⟩, hlb, HB3⟩ := HRZ.out w2 (.cells #[.int .i64 tZ.k, .int .i64 tZ.n, .slice x1 tZ.ls.len y1, .slice x2 tZ.ks.len y2] 29) t2 w3 hw3
              have hlb3 : w.heap.size + 1 < w3.heap.size := by rw [hw3]; simp; omega
              rw [← hw3]
              clear t2 hw3 hlb
              go_wp2_with fail
              refine bodyPost_ret (v := .tuple #[.agg #[.int .i64 0, .int .i64 0, .slice none 0 0, .slice none 0 0], (.int .i64 2)]) (by simp [results, Try.results26, go_sem, g0, g1, g2, g3]) rfl ?_
              rw [qRp_no HQN.out]
              exact QrPost.no ((((HB3.out.setCell (by simp) _).setCell (by simp) _).setCell (by simp) _).setCell (by simp) _)
      | cons k' n' ks r' =>
        have hjn : j < ls.len := by rw [hf.out, Fo.app_len, hj.out]; simp [Fo.len]
        have hjl : (j : Int) < (ls.len : Int) := by omega
        obtain ⟨b, o, rfl, hbB, hf0⟩ := HLS.out.2.2 (by omega)
        have hfa : FoIn w (· < B) (.cons k' n' ks r') b (o + j * 3) := by
          have h1 := hf0
          rw [hf.out] at h1
          rw [← hj.out]
          exact FoIn.behind3 G _ b o h1
        obtain ⟨e0, e1, ⟨a', cap', e2, hsl'⟩, _⟩ := (foIn_low hwr hB hbB hfa).first
        have hfs : ls.size = G.size + (ks.size + r'.size + 1) := by rw [hf.out, Fo.app_size]; rfl
        have hBr : B ≤ wr.heap.size := Nat.le_trans hB hwr.size
        have hbv : Below wr.heap.size wr (wr.alloc (.cells #[.int .i64 k', .int .i64 n', .slice a' ks.len cap'] 38)) := (Below.refl _ _).alloc (Nat.le_refl _) _
        have hBv : B ≤ (wr.alloc (.cells #[.int .i64 k', .int .i64 n', .slice a' ks.len cap'] 38)).heap.size := Nat.le_trans hBr hbv.size
        have hvb := Below.step hwr hbv (Nat.le_refl _)
        have HC : Hid (Calls Try.prog 43 #[.agg #[.int .i64 k', .int .i64 n', .slice a' ks.len cap'], .slice ap P.len cp, .slice aq Q.len cq] (wr.alloc (.cells #[.int .i64 k', .int .i64 n', .slice a' ks.len cap'] 38)) (SuPostB B (subT P Q k' n' ks) (subE P Q k' n' ks) (wr.alloc (.cells #[.int .i64 k', .int .i64 n', .slice a' ks.len cap'] 38)))) :=
          Lib.hid (sSub_off P Q k' n' ks a' ap aq cap' cp cq B (wr.alloc (.cells #[.int .i64 k', .int .i64 n', .slice a' ks.len cap'] 38)) (hsl'.below (hbv.mono hBr)) (HSP.out.below (hvb.mono hB)) (HSQ.out.below (hvb.mono hB)) hBv)
        by_cases hE : subE P Q k' n' ks = 0
        · have hT : subT P Q k' n' ks = sb1 P Q k' n' (sbF P Q ks) := by unfold subT; rw [if_pos hE]
          have HAP : Hid (∀ (e : Ending) (w2 : World), SuPostB B (subT P Q k' n' ks) (subE P Q k' n' ks) (wr.alloc (.cells #[.int .i64 k', .int .i64 n', .slice a' ks.len cap'] 38)) e w2 → ∃ (k2 n2 : Int) (F2 : Fo) (x2 : Option Addr) (c2 : Nat), e = .returned (.tuple #[.agg #[.int .i64 k2, .int .i64 n2, .slice x2 F2.len c2], .int .i64 0]) ∧
              (w2.alloc (.cells #[.int .i64 k2, .int .i64 n2, .slice x2 F2.len c2] 38)).cell? ⟨w.heap.size + 1 + 1, 2, none⟩ = some v ∧ w.heap.size + 1 + 1 < w2.heap.size ∧ ((w2.alloc (.cells #[.int .i64 k2, .int .i64 n2, .slice x2 F2.len c2] 38)).alloc (.cells #[.int .i64 k2, .int .i64 n2, .slice x2 F2.len c2] 38)).cell? ⟨w.heap.size + 1 + 1, 2, none⟩ = some v ∧
              ∃ g' cap' w3, Hid ((Builtin.append_ #[26, 26] 26 #[v, .slice (some ⟨w2.heap.size + 1, 0, none⟩) 1 1]).run Try.prog ((w2.alloc (.cells #[.int .i64 k2, .int .i64 n2, .slice x2 F2.len c2] 38)).alloc (.cells #[.int .i64 k2, .int .i64 n2, .slice x2 F2.len c2] 38)) = .ok (.slice (some ⟨g', 0, none⟩) (j + 1) cap') w3) ∧
                w3.cell? ⟨w.heap.size + 1 + 1, 2, none⟩ = some v ∧ (∀ o, w3.frozen? ⟨w.heap.size + 1 + 1, o, none⟩ = false) ∧
                Hid (L'.app (.cons k2 n2 F2 .nil) = sbF P Q (G.app (.cons k' n' ks .nil)) ∧ (L'.app (.cons k2 n2 F2 .nil)).len = j + 1 ∧ lvOkB P Q (G.app (.cons k' n' ks .nil)) = true) ∧
                Hid (TcR w (.cells #[.int .i64 k, .int .i64 n, .slice (some ⟨b, o, none⟩) ls.len lc, .slice ka f.len kc] 29) (w.heap.size + 1 + 1) B k n (L'.app (.cons k2 n2 F2 .nil)) (.slice (some ⟨g', 0, none⟩) (j + 1) cap') (w3.setCell ⟨w.heap.size + 1 + 1, 2, none⟩ (.slice (some ⟨g', 0, none⟩) (j + 1) cap')))) := Lib.hid (by
            rintro e w2 ⟨k2, n2, F2, x2, c2, hT2, rfl, t1, t2⟩
            rw [hE]
            rw [hT] at hT2
            have hbx : Below w2.heap.size w2 (w2.alloc (.cells #[.int .i64 k2, .int .i64 n2, .slice x2 F2.len c2] 38)) := (Below.refl _ _).alloc (Nat.le_refl _) _
            have t2 := Below.step hbv t2 (Nat.le_refl _)
            have hzv : wr.heap.size ≤ (wr.alloc (.cells #[.int .i64 k', .int .i64 n', .slice a' ks.len cap'] 38)).heap.size := hbv.size
            have hG1 : L'.len ≤ 1000 := by rw [hL.out.2.1]; have := Fo.len_le_size ls; omega
            have t3 : SlIn (w2.alloc (.cells #[.int .i64 k2, .int .i64 n2, .slice x2 F2.len c2] 38)) (fun b => (b < B ∨ wr.heap.size ≤ b) ∧ b < (w2.alloc (.cells #[.int .i64 k2, .int .i64 n2, .slice x2 F2.len c2] 38)).heap.size) F2 x2 c2 :=
              (t1.keep (fun b hb => hbx.block b hb.2)).weak (fun b hb => ⟨by have := hb.1; omega, by simp; omega⟩)
            obtain ⟨L2, hlb2, g', cap', w3, hrun, L3, Z3, hN⟩ := TcR.next (k' := k2) (n' := n2) hR.out hG1 t3 (Below.step t2 hbx (Nat.le_refl _))
            rw [hL.out.2.1] at hrun hN
            simp only [World.size_alloc] at hrun
            have hob2 := Nat.lt_of_lt_of_le hob t2.size
            refine ⟨k2, n2, F2, x2, c2, rfl, L2, hob2, (World.cell?_of_block (w := w2.alloc (.cells #[.int .i64 k2, .int .i64 n2, .slice x2 F2.len c2] 38)) (a := ⟨w.heap.size + 1 + 1, 2, none⟩) (heap_old _ _ hlb2)).trans L2, g', cap', w3, Lib.hid hrun, L3, Z3, Lib.hid ⟨?_, ?_, ?_⟩, Lib.hid hN⟩
            · rw [sbF_app, hL.out.1]
              show _ = (sbF P Q G).app ((sb1 P Q k' n' (sbF P Q ks)).app .nil)
              rw [hT2, foNil3]
            · rw [Fo.app_len, hL.out.2.1]; rfl
            · rw [lvOk_app, hL.out.2.2]
              simp [lvOkB, hE])
          have HSN : Hid (ls = (G.app (.cons k' n' ks .nil)).app r') := Lib.hid (by rw [hf.out, foAss3]; rfl)
          have HJ := Lib.hid hj.out
          clear hf hR hfa hf0 qz hsl' hfs hbox hE hT c0 c1 c2 c3 hbv hvb hBv
          go_wp2_with fail
          refine HC.out.mono ?_
          intro e w2 hP
          obtain ⟨k2, n2, F2, x2, c2', rfl, L2, hlb2, L2a, g', cap2, w3, HRUN, L3, Z3, HL3, HN⟩ := HAP.out e w2 hP
          clear hP HC HAP
          go_wp2_with (at_builtin; refine wpList_append_run (by rfl) _ _ _ (by rfl) (by rfl) (by rfl) HRUN.out ?_)
          go_roundw
          case rel => exact ⟨j + 1, _, r', _, _, by go_num, HSN, Lib.hid (by rw [Fo.app_len, HJ.out]; rfl), HL3, HN⟩
          case measure => simp [intOf]; omega
        · have HQN : Hid ((⟨k, n, ls, f⟩ : Tm).qok P Q = false) := Lib.hid (by
            unfold Tm.qok
            show (lvOkB P Q ls && _) = false
            rw [hf.out, lvOk_app]
            simp [lvOkB, hE])
          have HRZ : Hid (∀ (w2 : World) (ob : Obj), Below wr.heap.size wr w2 → ∀ w3, w3 = w2.alloc ob → (w3.cell? ⟨w.heap.size + 1, 0, none⟩ = some (.int .i64 0) ∧ w3.cell? ⟨w.heap.size + 1, 1, none⟩ = some (.int .i64 0) ∧ w3.cell? ⟨w.heap.size + 1, 2, none⟩ = some (.slice none 0 0) ∧ w3.cell? ⟨w.heap.size + 1, 3, none⟩ = some (.slice none 0 0) ∧ (∀ o, w3.frozen? ⟨w.heap.size + 1, o, none⟩ = false)) ∧ w.heap.size + 1 < w2.heap.size ∧ Hid (Below w.heap.size w w3)) := Lib.hid (by
            rintro w2 ob hb w3 rfl
            have hR1 := hR.out.2.1
            have hlt := lt_of_block hR1
            have hb3 := Below.step hb ((Below.refl w2.heap.size w2).alloc (Nat.le_refl _) ob) (Nat.le_refl _)
            have h3 := (hb3.block _ hlt).trans hR1
            exact ⟨⟨cell_at h3 0, cell_at h3 1, cell_at h3 2, cell_at h3 3, free_of h3⟩, Nat.lt_of_lt_of_le hlt hb.size, Lib.hid (Below.step hwr hb3 (Nat.le_refl _))⟩)
          generalize subE P Q k' n' ks = E at HC hE
          generalize subT P Q k' n' ks = T2 at HC
          have hE1 : (E == 0) = false := beq_eq_false_iff_ne.2 hE
          have HBV := Lib.hid hbv
          clear hf hR hfa hf0 hsl' hfs hbox c0 c1 c2 c3 hbv hvb hBv
          go_wp2_with fail
          refine HC.out.mono ?_
          rintro e w2 ⟨k2, n2, F2, x2, c2', -, rfl, -, t2'⟩
          have t2 := Below.step HBV.out t2' (Nat.le_refl _)
          clear t2'
          go_upto_region 7 with fail
          obtain ⟨w3, hw3⟩ : ∃ w3, w3 = w2.alloc (.cells #[.int .i64 k2, .int .i64 n2, .slice x2 F2.len c2'] 38) := ⟨_, rfl⟩
          obtain ⟨⟨g0, g1, g2, g3, gz⟩, hlb, HB3⟩ := HRZ.out w2 (.cells #[.int .i64 k2, .int .i64 n2, .slice x2 F2.len c2'] 38) t2 w3 hw3
          have hlb3 : w.heap.size + 1 < w3.heap.size := by rw [hw3]; simp; omega
          rw [← hw3]
          clear t2 hw3 hlb
          go_wp2_with fail
          refine bodyPost_ret (v := .tuple #[.agg #[.int .i64 0, .int .i64 0, .slice none 0 0, .slice none 0 0], (.int .i64 2)]) (by simp [results, Try.results26, go_sem, g0, g1, g2, g3]) rfl ?_
          rw [qRp_no HQN.out]
          exact QrPost.no ((((HB3.out.setCell (by simp) _).setCell (by simp) _).setCell (by simp) _).setCell (by simp) _)
end Go.Proofs.Ytcnhfoppfihhiaa
/- The table of the kinds of terms: the map that kinds makes, the rows of numbers that it leads to, and what is found in it. No condition. -/
namespace Go.Proofs.Ytcnhfoppfihhiaa
open Go.RowKit

/-- The row of a kind in the table. -/
def tRw (f : Nat) (lo hi : Int) (a : Option Addr) (len : Nat) : Value := .agg #[.func (.func f) #[] #[], .int .i64 lo, .int .i64 hi, .slice a len len]
def tAddr (r : Nat) (k : Int) : Option Addr := if k = 4 then some ⟨r + 1, 0, none⟩ else if k = 5 then some ⟨r + 1 + 1, 0, none⟩ else if k = 6 then some ⟨r + 1 + 1 + 1, 0, none⟩ else if k = 7 then some ⟨r + 1 + 1 + 1 + 1, 0, none⟩ else none
def tFn (k : Int) : Nat := if k = 1 then 58 else if k = 3 then 59 else 57
/-- The table. -/
def tTab (r : Nat) : Array MapEntry := #[⟨.int .i64 1, tRw 58 0 0 none 0, 0⟩, ⟨.int .i64 2, tRw 57 1 1 none 0, 1⟩, ⟨.int .i64 3, tRw 59 0 5 none 0, 2⟩, ⟨.int .i64 4, tRw 57 0 0 (some ⟨r + 1, 0, none⟩) 2, 3⟩,
  ⟨.int .i64 5, tRw 57 0 0 (some ⟨r + 1 + 1, 0, none⟩) 2, 4⟩, ⟨.int .i64 6, tRw 57 0 0 (some ⟨r + 1 + 1 + 1, 0, none⟩) 2, 5⟩, ⟨.int .i64 7, tRw 57 0 0 (some ⟨r + 1 + 1 + 1 + 1, 0, none⟩) 3, 6⟩]
/-- The table lies at the block r, its rows of numbers behind it. -/
structure TabAt (W : World) (r : Nat) : Prop where
  tab : W.heap[r]? = some (.map (tTab r) 7)
  r1 : W.heap[r + 1]? = some (.cells #[.int .i64 0, .int .i64 0] 3 (0, 0))
  r2 : W.heap[r + 1 + 1]? = some (.cells #[.int .i64 0, .int .i64 1] 3 (0, 0))
  r3 : W.heap[r + 1 + 1 + 1]? = some (.cells #[.int .i64 0, .int .i64 1] 3 (0, 0))
  r4 : W.heap[r + 1 + 1 + 1 + 1]? = some (.cells #[.int .i64 0, .int .i64 0, .int .i64 1] 3 (0, 0))
theorem TabAt.lt {W : World} {r : Nat} (h : TabAt W r) : r + 4 < W.heap.size := lt_of_block h.r4
theorem TabAt.turn {W W' : World} {r : Nat} (h : TabAt W r) (hk : ∀ b, r ≤ b → b ≤ r + 4 → W'.heap[b]? = W.heap[b]?) : TabAt W' r :=
  ⟨(hk _ (by omega) (by omega)).trans h.tab, (hk _ (by omega) (by omega)).trans h.r1, (hk _ (by omega) (by omega)).trans h.r2, (hk _ (by omega) (by omega)).trans h.r3, (hk _ (by omega) (by omega)).trans h.r4⟩
theorem TabAt.below {W W' : World} {r B : Nat} (h : TabAt W r) (hb : Below B W W') (hB : r + 4 < B) : TabAt W' r := h.turn (fun b _ h2 => hb.block b (by omega))
theorem TabAt.later {W W' : World} {r : Nat} (h : TabAt W r) (hb : Below W.heap.size W W') : TabAt W' r := h.below hb h.lt
theorem TabAt.only {W W' : World} {r C : Nat} (h : TabAt W r) (hg : W.grownBy W' (some C)) (hC : r + 4 < C) : TabAt W' r := h.turn (fun b _ h2 => Only.block hg (by have := h.lt; omega) (by omega))
theorem TabAt.drew {W : World} {r : Nat} (h : TabAt W r) : TabAt W.drew r := ⟨h.tab, h.r1, h.r2, h.r3, h.r4⟩
theorem TabAt.alloc {W : World} {r : Nat} (h : TabAt W r) (o : Obj) : TabAt (W.alloc o) r := h.later ((Below.refl _ _).alloc (Nat.le_refl _) o)

def mset (W : World) (r : Nat) (o : Obj) : World := { W with heap := W.heap.setIfInBounds r o }
theorem mset_alloc (W : World) (r : Nat) (o o1 : Obj) (h : r < W.heap.size) : mset (W.alloc o1) r o = (mset W r o).alloc o1 := by
  have e : (W.heap.push o1).setIfInBounds r o = (W.heap.setIfInBounds r o).push o1 := by
    apply Array.ext_getElem?
    intro i
    rw [Array.getElem?_setIfInBounds, Array.getElem?_push, Array.getElem?_push, Array.getElem?_setIfInBounds]
    by_cases hi : r = i
    · subst hi
      rw [if_pos rfl, if_pos rfl, if_pos (by simp; omega), if_pos h, if_neg (by simp; omega)]
    · rw [if_neg hi, if_neg hi, Array.size_setIfInBounds]
  show ({ W with heap := (W.heap.push o1).setIfInBounds r o } : World) = { W with heap := (W.heap.setIfInBounds r o).push o1 }
  rw [e]
theorem mset_new (w : World) (o o1 : Obj) : mset (w.alloc o1) w.heap.size o = w.alloc o := by
  have e : (w.heap.push o1).setIfInBounds w.heap.size o = w.heap.push o := by
    apply Array.ext_getElem?
    intro i
    rw [Array.getElem?_setIfInBounds, Array.getElem?_push, Array.getElem?_push]
    by_cases hi : w.heap.size = i
    · subst hi; simp
    · rw [if_neg hi, if_neg (Ne.symm hi), if_neg (Ne.symm hi)]
  show ({ w with heap := (w.heap.push o1).setIfInBounds w.heap.size o } : World) = { w with heap := w.heap.push o }
  rw [e]
theorem run_tins (W : World) (r : Nat) (es : Array MapEntry) (clock : Nat) (k : Int) (val : Value) (hb : W.heap[r]? = some (.map es clock)) (hf : Instr.findNow (.int .i64) (.int .i64 k) es.toList 0 = some none) :
    (Instr.mapUpdate 76 (.map (some r)) (.int .i64 k) val).run Try.prog W = .ok () (mset W r (.map (es.push { key := .int .i64 k, val := val, born := clock }) (clock + 1))) := by
  have hc : (Instr.checkKey false 10000 3 (.int .i64 k)).run Try.prog W = .ok () W := MapKept.run_checkKey (k := .int .i64 k) Try.underlying3 (by simp [MapKept.IsKey]) false 9999
  simp only [Instr.mapUpdate, Sem.run_bind, run_underlying Try.underlying76, MapKept.run_getObj_map hb, hc, MapKept.run_findKey Try.underlying3 hf, MapKept.run_setObj_map _ hb, Result.andThen]
  rfl
theorem map_new (w : World) (es : Array MapEntry) (c : Nat) : (w.alloc (.map es c)).heap[w.heap.size]? = some (.map es c) := heap_new w _

theorem five_new (w : World) (m a b c d : Obj) : (((((w.alloc m).alloc a).alloc b).alloc c).alloc d).heap[w.heap.size]? = some m ∧ (((((w.alloc m).alloc a).alloc b).alloc c).alloc d).heap[w.heap.size + 1]? = some a ∧
    (((((w.alloc m).alloc a).alloc b).alloc c).alloc d).heap[w.heap.size + 1 + 1]? = some b ∧ (((((w.alloc m).alloc a).alloc b).alloc c).alloc d).heap[w.heap.size + 1 + 1 + 1]? = some c ∧ (((((w.alloc m).alloc a).alloc b).alloc c).alloc d).heap[w.heap.size + 1 + 1 + 1 + 1]? = some d := by
  have s1 : (w.alloc m).heap.size = w.heap.size + 1 := by simp
  have s2 : ((w.alloc m).alloc a).heap.size = w.heap.size + 1 + 1 := by simp
  have s3 : (((w.alloc m).alloc a).alloc b).heap.size = w.heap.size + 1 + 1 + 1 := by simp
  have s4 : ((((w.alloc m).alloc a).alloc b).alloc c).heap.size = w.heap.size + 1 + 1 + 1 + 1 := by simp
  have n0 := heap_new w m
  have n1 := heap_new (w.alloc m) a
  have n2 := heap_new ((w.alloc m).alloc a) b
  have n3 := heap_new (((w.alloc m).alloc a).alloc b) c
  have n4 := heap_new ((((w.alloc m).alloc a).alloc b).alloc c) d
  rw [s1] at n1
  rw [s2] at n2
  rw [s3] at n3
  rw [s4] at n4
  refine ⟨?_, ?_, ?_, ?_, n4⟩
  · rw [heap_old _ _ (by omega), heap_old _ _ (by omega), heap_old _ _ (by omega), heap_old _ _ (by omega)]; exact n0
  · rw [heap_old _ _ (by omega), heap_old _ _ (by omega), heap_old _ _ (by omega)]; exact n1
  · rw [heap_old _ _ (by omega), heap_old _ _ (by omega)]; exact n2
  · rw [heap_old _ _ (by omega)]; exact n3

set_option maxRecDepth 100000 in
set_option maxHeartbeats 4000000 in
theorem tkinds_any (w : World) : Calls Try.prog 42 #[] w fun e w' => e = .returned (.map (some w.heap.size)) ∧ TabAt w' w.heap.size ∧ Below w.heap.size w w' := by
  have hmm := @run_makeMap Try.prog
  have i0 : ∀ (es : Array MapEntry) (c : Nat) (k : Int) (v : Value), Instr.findNow (.int .i64) (.int .i64 k) es.toList 0 = some none → (Instr.mapUpdate 76 (.map (some w.heap.size)) (.int .i64 k) v).run Try.prog (w.alloc (.map es c)) = .ok () (w.alloc (.map (es.push { key := .int .i64 k, val := v, born := c }) (c + 1))) := fun es c k v hf => by
    rw [run_tins _ _ es c k v (map_new w es c) hf, mset_new]
  have i1 : ∀ (es : Array MapEntry) (c : Nat) (k : Int) (v : Value) (o1 : Obj), Instr.findNow (.int .i64) (.int .i64 k) es.toList 0 = some none → (Instr.mapUpdate 76 (.map (some w.heap.size)) (.int .i64 k) v).run Try.prog ((w.alloc (.map es c)).alloc o1) = .ok () ((w.alloc (.map (es.push { key := .int .i64 k, val := v, born := c }) (c + 1))).alloc o1) := fun es c k v o1 hf => by
    rw [run_tins _ _ es c k v ((heap_old _ _ (by simp)).trans (map_new w es c)) hf, mset_alloc _ _ _ _ (by simp), mset_new]
  have i2 : ∀ (es : Array MapEntry) (c : Nat) (k : Int) (v : Value) (o1 o2 : Obj), Instr.findNow (.int .i64) (.int .i64 k) es.toList 0 = some none → (Instr.mapUpdate 76 (.map (some w.heap.size)) (.int .i64 k) v).run Try.prog (((w.alloc (.map es c)).alloc o1).alloc o2) = .ok () (((w.alloc (.map (es.push { key := .int .i64 k, val := v, born := c }) (c + 1))).alloc o1).alloc o2) := fun es c k v o1 o2 hf => by
    rw [run_tins _ _ es c k v ((heap_old _ _ (by simp; omega)).trans ((heap_old _ _ (by simp)).trans (map_new w es c))) hf, mset_alloc _ _ _ _ (by simp; omega), mset_alloc _ _ _ _ (by simp), mset_new]
  have i3 : ∀ (es : Array MapEntry) (c : Nat) (k : Int) (v : Value) (o1 o2 o3 : Obj), Instr.findNow (.int .i64) (.int .i64 k) es.toList 0 = some none → (Instr.mapUpdate 76 (.map (some w.heap.size)) (.int .i64 k) v).run Try.prog ((((w.alloc (.map es c)).alloc o1).alloc o2).alloc o3) = .ok () ((((w.alloc (.map (es.push { key := .int .i64 k, val := v, born := c }) (c + 1))).alloc o1).alloc o2).alloc o3) := fun es c k v o1 o2 o3 hf => by
    rw [run_tins _ _ es c k v ((heap_old _ _ (by simp; omega)).trans ((heap_old _ _ (by simp; omega)).trans ((heap_old _ _ (by simp)).trans (map_new w es c)))) hf, mset_alloc _ _ _ _ (by simp; omega), mset_alloc _ _ _ _ (by simp; omega), mset_alloc _ _ _ _ (by simp), mset_new]
  have i4 : ∀ (es : Array MapEntry) (c : Nat) (k : Int) (v : Value) (o1 o2 o3 o4 : Obj), Instr.findNow (.int .i64) (.int .i64 k) es.toList 0 = some none → (Instr.mapUpdate 76 (.map (some w.heap.size)) (.int .i64 k) v).run Try.prog (((((w.alloc (.map es c)).alloc o1).alloc o2).alloc o3).alloc o4) = .ok () (((((w.alloc (.map (es.push { key := .int .i64 k, val := v, born := c }) (c + 1))).alloc o1).alloc o2).alloc o3).alloc o4) := fun es c k v o1 o2 o3 o4 hf => by
    rw [run_tins _ _ es c k v ((heap_old _ _ (by simp; omega)).trans ((heap_old _ _ (by simp; omega)).trans ((heap_old _ _ (by simp; omega)).trans ((heap_old _ _ (by simp)).trans (map_new w es c))))) hf, mset_alloc _ _ _ _ (by simp; omega), mset_alloc _ _ _ _ (by simp; omega), mset_alloc _ _ _ _ (by simp; omega), mset_alloc _ _ _ _ (by simp), mset_new]
  have h1 := fun v => i0 #[] 0 1 v rfl
  have h2 := fun v1 v => i0 #[⟨.int .i64 1, v1, 0⟩] 1 2 v rfl
  have h3 := fun v1 v2 v => i0 #[⟨.int .i64 1, v1, 0⟩, ⟨.int .i64 2, v2, 1⟩] 2 3 v rfl
  have h4 := fun v1 v2 v3 v o1 => i1 #[⟨.int .i64 1, v1, 0⟩, ⟨.int .i64 2, v2, 1⟩, ⟨.int .i64 3, v3, 2⟩] 3 4 v o1 rfl
  have h5 := fun v1 v2 v3 v4 v o1 o2 => i2 #[⟨.int .i64 1, v1, 0⟩, ⟨.int .i64 2, v2, 1⟩, ⟨.int .i64 3, v3, 2⟩, ⟨.int .i64 4, v4, 3⟩] 4 5 v o1 o2 rfl
  have h6 := fun v1 v2 v3 v4 v5 v o1 o2 o3 => i3 #[⟨.int .i64 1, v1, 0⟩, ⟨.int .i64 2, v2, 1⟩, ⟨.int .i64 3, v3, 2⟩, ⟨.int .i64 4, v4, 3⟩, ⟨.int .i64 5, v5, 4⟩] 5 6 v o1 o2 o3 rfl
  have h7 := fun v1 v2 v3 v4 v5 v6 v o1 o2 o3 o4 => i4 #[⟨.int .i64 1, v1, 0⟩, ⟨.int .i64 2, v2, 1⟩, ⟨.int .i64 3, v3, 2⟩, ⟨.int .i64 4, v4, 3⟩, ⟨.int .i64 5, v5, 4⟩, ⟨.int .i64 6, v6, 5⟩] 6 7 v o1 o2 o3 o4 rfl
  clear i0 i1 i2 i3 i4
  go_enter Try.func42, Try.ntmps42
  go_wp2_with fail
  go_ret
  refine ⟨rfl, ⟨?_, ?_, ?_, ?_, ?_⟩, ?_⟩
  · exact (five_new w _ _ _ _ _).1
  · exact (five_new w _ _ _ _ _).2.1
  · exact (five_new w _ _ _ _ _).2.2.1
  · exact (five_new w _ _ _ _ _).2.2.2.1
  · exact (five_new w _ _ _ _ _).2.2.2.2
  · exact (((((Below.refl _ _).alloc (Nat.le_refl _) _).alloc (by simp) _).alloc (by simp; omega) _).alloc (by simp; omega) _).alloc (by simp; omega) _

/-- What is found in the table at a kind. -/
def tRow (r : Nat) (k : Int) : Value := tRw (tFn k) (tlo k) (thi k) (tAddr r k) (tkids k).toNat
theorem tfound (r : Nat) (k : Int) (h1 : 1 ≤ k) (h7 : k ≤ 7) : ∃ i, Instr.findNow (.int .i64) (.int .i64 k) (tTab r).toList 0 = some (some (i, tRow r k)) := by
  have hc : k = 1 ∨ k = 2 ∨ k = 3 ∨ k = 4 ∨ k = 5 ∨ k = 6 ∨ k = 7 := by omega
  rcases hc with rfl | rfl | rfl | rfl | rfl | rfl | rfl
  · exact ⟨0, rfl⟩
  · exact ⟨1, rfl⟩
  · exact ⟨2, rfl⟩
  · exact ⟨3, rfl⟩
  · exact ⟨4, rfl⟩
  · exact ⟨5, rfl⟩
  · exact ⟨6, rfl⟩
theorem run_tlook (W : World) (r : Nat) (hb : TabAt W r) (k : Int) (c : Bool) (h1 : 1 ≤ k) (h7 : k ≤ 7) :
    (Instr.lookup 76 (.map (some r)) (.int .i64 k) c).run Try.prog W = .ok (if c then .tuple #[tRow r k, .bool true] else tRow r k) W := by
  have hc : (Instr.checkKey (tTab r).isEmpty 10000 3 (.int .i64 k)).run Try.prog W = .ok () W := MapKept.run_checkKey (k := .int .i64 k) Try.underlying3 (by simp [MapKept.IsKey]) _ 9999
  obtain ⟨i, hf⟩ := tfound r k h1 h7
  simp [Instr.lookup, run_underlying Try.underlying76, MapKept.run_getObj_map hb.tab, hc, MapKept.run_findKey Try.underlying3 hf, Result.andThen]
theorem run_tlook_no (W : World) (r : Nat) (hb : TabAt W r) (k : Int) (c : Bool) (hk : k < 1 ∨ 7 < k) :
    (Instr.lookup 76 (.map (some r)) (.int .i64 k) c).run Try.prog W = .ok (if c then .tuple #[.agg #[.nilFunc, .int .i64 0, .int .i64 0, .slice none 0 0], .bool false] else .agg #[.nilFunc, .int .i64 0, .int .i64 0, .slice none 0 0]) W := by
  have hc : (Instr.checkKey (tTab r).isEmpty 10000 3 (.int .i64 k)).run Try.prog W = .ok () W := MapKept.run_checkKey (k := .int .i64 k) Try.underlying3 (by simp [MapKept.IsKey]) _ 9999
  have hf : Instr.findNow (.int .i64) (.int .i64 k) (tTab r).toList 0 = some none := by
    have n1 : (k == 1) = false := beq_eq_false_iff_ne.2 (by omega)
    have n2 : (k == 2) = false := beq_eq_false_iff_ne.2 (by omega)
    have n3 : (k == 3) = false := beq_eq_false_iff_ne.2 (by omega)
    have n4 : (k == 4) = false := beq_eq_false_iff_ne.2 (by omega)
    have n5 : (k == 5) = false := beq_eq_false_iff_ne.2 (by omega)
    have n6 : (k == 6) = false := beq_eq_false_iff_ne.2 (by omega)
    have n7 : (k == 7) = false := beq_eq_false_iff_ne.2 (by omega)
    simp [tTab, Instr.findNow, Instr.sameNow, n1, n2, n3, n4, n5, n6, n7]
  simp [Instr.lookup, run_underlying Try.underlying76, MapKept.run_getObj_map hb.tab, hc, MapKept.run_findKey Try.underlying3 hf, Result.andThen]
theorem run_tfield3 (g : Nat) (lo hi : Int) (a : Option Addr) (x y : Nat) (W : World) : (Instr.field 99 (.agg #[.func (.func g) #[] #[], .int .i64 lo, .int .i64 hi, .slice a x y]) 3).run Try.prog W = .ok (.slice a x y) W := by kernel_rfl
/-- The row of numbers of a kind: how many binders each kid is below. -/
theorem TabAt.own {W : World} {r : Nat} (h : TabAt W r) {k : Int} {i : Nat} (hi : (i : Int) < tkids k) : ∃ b, tAddr r k = some ⟨b, 0, none⟩ ∧ r < b ∧ b ≤ r + 4 ∧ W.cell? ⟨b, i, none⟩ = some (.int .i64 (bindK k i)) := by
  have hk : k = 4 ∨ k = 5 ∨ k = 6 ∨ k = 7 := by
    unfold tkids at hi
    by_cases h1 : k = 4 ∨ k = 5 ∨ k = 6
    · omega
    · rw [if_neg h1] at hi
      by_cases h2 : k = 7
      · omega
      · rw [if_neg h2] at hi
        split at hi <;> omega
  rcases hk with rfl | rfl | rfl | rfl
  · have hc : i = 0 ∨ i = 1 := by simp [tkids] at hi; omega
    refine ⟨r + 1, rfl, by omega, by omega, ?_⟩
    rcases hc with rfl | rfl <;> exact cell_at h.r1 _
  · have hc : i = 0 ∨ i = 1 := by simp [tkids] at hi; omega
    refine ⟨r + 1 + 1, rfl, by omega, by omega, ?_⟩
    rcases hc with rfl | rfl <;> exact cell_at h.r2 _
  · have hc : i = 0 ∨ i = 1 := by simp [tkids] at hi; omega
    refine ⟨r + 1 + 1 + 1, rfl, by omega, by omega, ?_⟩
    rcases hc with rfl | rfl <;> exact cell_at h.r3 _
  · have hc : i = 0 ∨ i = 1 ∨ i = 2 := by simp [tkids] at hi; omega
    refine ⟨r + 1 + 1 + 1 + 1, rfl, by omega, by omega, ?_⟩
    rcases hc with rfl | rfl | rfl <;> exact cell_at h.r4 _
theorem tk1_any (v : Int) (w : World) : Calls Try.prog 57 #[.int .i64 v] w fun e w' => e = .returned (.int .i64 1) ∧ w' = w := by
  go_enter Try.func57, Try.ntmps57
  go_wp2
  go_ret
  exact ⟨rfl, rfl⟩
theorem tk2_any (v : Int) (w : World) : Calls Try.prog 58 #[.int .i64 v] w fun e w' => e = .returned (.int .i64 v) ∧ w' = w := by
  go_enter Try.func58, Try.ntmps58
  go_wp2
  go_ret
  exact ⟨rfl, rfl⟩
theorem tk3_any (v : Int) (w : World) : Calls Try.prog 59 #[.int .i64 v] w fun e w' => e = .returned (.int .i64 20) ∧ w' = w := by
  go_enter Try.func59, Try.ntmps59
  go_wp2
  go_ret
  exact ⟨rfl, rfl⟩
theorem tFn_any (k v : Int) (w : World) : Calls Try.prog (tFn k) #[.int .i64 v] w fun e w' => e = .returned (.int .i64 (tlim v k)) ∧ w' = w := by
  unfold tFn tlim
  split
  · exact tk2_any v w
  · split
    · exact tk3_any v w
    · exact tk1_any v w
end Go.Proofs.Ytcnhfoppfihhiaa
/- The contract of the checker's fits: it looks at a term alone, and at its levels, by the table of kinds. -/
namespace Go.Proofs.Ytcnhfoppfihhiaa
open Go.RowKit

theorem run_store_nilFunc' (P : Program) (w : World) (a : Addr) (m : Mode) : (store a .nilFunc m).run P w = stored P w a .nilFunc m := run_store P w a _ m rfl
theorem run_store_func' (P : Program) (w : World) (a : Addr) (m : Mode) (f : Fn) (x y : Array Value) : (store a (.func f x y) m).run P w = stored P w a (.func f x y) m := run_store P w a _ m rfl
attribute [local go_sem] run_store_nilFunc' run_store_func'

/-- The checker's block, whole, and the table that it points to. -/
def TkAt (w : World) (C r : Nat) (p m left : Int) : Prop :=
  w.heap[C]? = some (.cells #[.map (some r), .int .i64 p, .int .i64 m, .int .i64 left] 96 (0, 0)) ∧ TabAt w r ∧ r + 4 < C
theorem TkAt.facts {w : World} {C r : Nat} {p m left : Int} (h : TkAt w C r p m left) :
    w.cell? ⟨C, 0, none⟩ = some (.map (some r)) ∧ w.cell? ⟨C, 1, none⟩ = some (.int .i64 p) ∧ w.cell? ⟨C, 2, none⟩ = some (.int .i64 m) ∧ w.cell? ⟨C, 3, none⟩ = some (.int .i64 left) ∧ w.frozen? ⟨C, 3, none⟩ = false ∧ C < w.heap.size := by
  obtain ⟨h1, _, _⟩ := h
  exact ⟨cell_at h1 0, cell_at h1 1, cell_at h1 2, cell_at h1 3, free_of h1 3, lt_of_block h1⟩
theorem TkAt.below {w w' : World} {C r : Nat} {p m left : Int} (h : TkAt w C r p m left) (hb : Below w.heap.size w w') : TkAt w' C r p m left := by
  have hlt := lt_of_block h.1
  exact ⟨(hb.block C hlt).trans h.1, h.2.1.below hb (by have := h.2.2; omega), h.2.2⟩
theorem TkAt.alloc {w : World} {C r : Nat} {p m left : Int} (h : TkAt w C r p m left) (o : Obj) : TkAt (w.alloc o) C r p m left := h.below ((Below.refl _ _).alloc (Nat.le_refl _) o)
theorem TkAt.set {w : World} {C r : Nat} {p m left : Int} (h : TkAt w C r p m left) (l : Int) : TkAt (w.setCell ⟨C, 3, none⟩ (.int .i64 l)) C r p m l := by
  obtain ⟨h1, h2, h3⟩ := h
  refine ⟨?_, h2.turn (fun b hb1 hb2 => Below.heap_setCell _ _ _ _ (by show b ≠ C; omega)), h3⟩
  simp only [World.setCell, Array.getElem?_modify, if_true, h1]; rfl

theorem quiet_more' {P : Program} {f : FuncId} {args : Array Value} {w : World} {a n : Nat} {v : Value}
    (h : Calls P f args (w.drewN (a + n)) fun e w' => e = .returned v ∧ w' = w.drewN (a + n)) :
    Calls P f args (w.drewN (a + n)) fun e w'' => e = .returned v ∧ ∃ m, w'' = w.drewN (a + m) :=
  h.mono fun _ _ ⟨he, hm⟩ => ⟨he, n, hm⟩

theorem tfits_yes {p m v k n : Int} {ls : Fo} {klen : Nat} (h1 : (klen : Int) = tkids k) (h2 : ¬ n < 0) (h3 : ¬ tlim v k ≤ n) (h4 : ¬ (ls.len : Int) < tlo k) (h5 : ¬ thi k < (ls.len : Int)) : tfitsB p m v k n ls klen = lvB p m ls := by
  unfold tfitsB
  rw [decide_eq_true h1, decide_eq_true (by omega : 0 ≤ n), decide_eq_true (by omega : n < tlim v k), decide_eq_true (by omega : tlo k ≤ (ls.len : Int)), decide_eq_true (by omega : (ls.len : Int) ≤ thi k)]
  rfl
theorem tfits_no {p m v k n : Int} {ls : Fo} {klen : Nat} (h : (klen : Int) ≠ tkids k ∨ n < 0 ∨ tlim v k ≤ n ∨ (ls.len : Int) < tlo k ∨ thi k < (ls.len : Int)) : tfitsB p m v k n ls klen = false := by
  unfold tfitsB
  rcases h with h | h | h | h | h
  · rw [decide_eq_false h]; rfl
  · rw [decide_eq_false (by omega : ¬ 0 ≤ n)]; simp
  · rw [decide_eq_false (by omega : ¬ n < tlim v k)]; simp
  · rw [decide_eq_false (by omega : ¬ tlo k ≤ (ls.len : Int))]; simp
  · rw [decide_eq_false (by omega : ¬ (ls.len : Int) ≤ thi k)]; simp

set_option maxRecDepth 100000 in
set_option maxHeartbeats 2000000 in
theorem tcfits_k (v p m left k n : Int) (la : Option Addr) (ll lc : Nat) (ka : Option Addr) (klen kc C r : Nat) (w : World) (hk : k < 1 ∨ 7 < k) (hat : TkAt w C r p m left) :
    Calls Try.prog 73 #[.pointer (some ⟨C, 0, none⟩), .agg #[.int .i64 k, .int .i64 n, .slice la ll lc, .slice ka klen kc], .int .i64 v] w fun e w' => e = .returned (.bool false) ∧ Below w.heap.size w w' := by
  obtain ⟨c0, c1, c2, c3, fz, hC⟩ := hat.facts
  have hat1 := hat.alloc (.cells #[.int .i64 k, .int .i64 n, .slice la ll lc, .slice ka klen kc] 29)
  have l1 := run_tlook_no (w.alloc (.cells #[.int .i64 k, .int .i64 n, .slice la ll lc, .slice ka klen kc] 29)).drew r hat1.2.1.drew k true hk
  have l2 := fun o => run_tlook_no ((w.alloc (.cells #[.int .i64 k, .int .i64 n, .slice la ll lc, .slice ka klen kc] 29)).alloc o).drew r (hat1.alloc o).2.1.drew k true hk
  simp only [if_true] at l1 l2
  clear hat1 hat
  go_enter Try.func73, Try.ntmps73
  go_wp2_with fail
  go_region
  go_wp2_with fail
  go_quiet (fail)
  go_wp2_with fail
  go_ret
  exact ⟨rfl, Below.draws (((Below.refl _ _).alloc (Nat.le_refl _) _).alloc (by simp) _).drew _⟩

theorem tfHeld {W w' : World} {N C : Nat} {x0 x1 x2 y1 y2 : Value} (h : Hid (Below W.heap.size W w')) (hC : C < N) (hN : N < W.heap.size) (q0 : W.cell? ⟨N, 0, none⟩ = some x0) (q1 : W.cell? ⟨N, 1, none⟩ = some x1) (q2 : W.cell? ⟨N, 2, none⟩ = some x2) (m1 : W.cell? ⟨C, 1, none⟩ = some y1) (m2 : W.cell? ⟨C, 2, none⟩ = some y2) :
    w'.cell? ⟨N, 0, none⟩ = some x0 ∧ w'.cell? ⟨N, 1, none⟩ = some x1 ∧ w'.cell? ⟨N, 2, none⟩ = some x2 ∧ w'.cell? ⟨C, 1, none⟩ = some y1 ∧ w'.cell? ⟨C, 2, none⟩ = some y2 :=
  ⟨(bcell h.out _ _ hN).trans q0, (bcell h.out _ _ hN).trans q1, (bcell h.out _ _ hN).trans q2, (bcell h.out _ _ (by omega)).trans m1, (bcell h.out _ _ (by omega)).trans m2⟩

set_option maxRecDepth 100000 in
set_option maxHeartbeats 4000000 in
theorem tcfits_f (v p m left k n lo hi L : Int) (K g : Nat) (ka' : Option Addr) (res : Bool) (ls : Fo) (la : Option Addr) (lc : Nat) (ka : Option Addr) (klen kc C r B : Nat) (w : World) (hg : g = 57 ∨ g = 58 ∨ g = 59)
    (hl : ∀ W : World, TabAt W r → (Instr.lookup 76 (.map (some r)) (.int .i64 k) true).run Try.prog W = .ok (.tuple #[.agg #[.func (.func g) #[] #[], .int .i64 lo, .int .i64 hi, .slice ka' K K], .bool true]) W)
    (hf : ∀ W : World, Calls Try.prog g #[.int .i64 v] W fun e w' => e = .returned (.int .i64 L) ∧ w' = W) (hat : TkAt w C r p m left) (hB : B ≤ w.heap.size) (hsl : SlIn w (· < B) ls la lc)
    (hres : res = if (klen : Int) = (K : Int) ∧ ¬ n < 0 ∧ ¬ L ≤ n ∧ ¬ (ls.len : Int) < lo ∧ ¬ hi < (ls.len : Int) then lvB p m ls else false) :
    Calls Try.prog 73 #[.pointer (some ⟨C, 0, none⟩), .agg #[.int .i64 k, .int .i64 n, .slice la ls.len lc, .slice ka klen kc], .int .i64 v] w fun e w' => e = .returned (.bool res) ∧ Below w.heap.size w w' := by
  obtain ⟨c0, c1, c2, c3, fz, hC⟩ := hat.facts
  have hat1 := hat.alloc (.cells #[.int .i64 k, .int .i64 n, .slice la ls.len lc, .slice ka klen kc] 29)
  have l1 := hl (w.alloc (.cells #[.int .i64 k, .int .i64 n, .slice la ls.len lc, .slice ka klen kc] 29)).drew hat1.2.1.drew
  have l2 := fun o => hl ((w.alloc (.cells #[.int .i64 k, .int .i64 n, .slice la ls.len lc, .slice ka klen kc] 29)).alloc o).drew (hat1.alloc o).2.1.drew
  have HF := Lib.hid hf
  have hend : Below w.heap.size w ((w.alloc (.cells #[.int .i64 k, .int .i64 n, .slice la ls.len lc, .slice ka klen kc] 29)).alloc (.cells #[.func (.func g) #[] #[], .int .i64 lo, .int .i64 hi, .slice ka' K K] 99)).drew := (((Below.refl _ _).alloc (Nat.le_refl _) _).alloc (by simp) _).drew
  have HE := Lib.hid hend
  have HE0 : Hid (Below w.heap.size w ((w.alloc (.cells #[.int .i64 k, .int .i64 n, .slice la ls.len lc, .slice ka klen kc] 29)).alloc (.cells #[.func (.func g) #[] #[], .int .i64 lo, .int .i64 hi, .slice ka' K K] 99))) := Lib.hid (((Below.refl _ _).alloc (Nat.le_refl _) _).alloc (by simp) _)
  have HSL := Lib.hid hsl
  have HB := Lib.hid hB
  have HAT := Lib.hid hat
  clear hat1 hat hl hf hend hsl hB
  by_cases h1 : (klen : Int) = (K : Int)
  · have d1 : ((klen : Int) != (K : Int)) = false := by rw [h1]; simp
    by_cases h2 : n < 0
    · rw [if_neg (fun h => h.2.1 h2)] at hres
      subst hres
      have d2 : decide (n < 0) = true := decide_eq_true h2
      clear h1 h2
      rcases hg with rfl | rfl | rfl
      all_goals
        go_enter Try.func73, Try.ntmps73
        go_wp2_with fail
        go_region
        go_wp2_with fail
        go_quiet (fail)
        go_wp2_with fail
        go_ret
        exact ⟨rfl, Below.draws HE.out _⟩
    · have d2 : decide (n < 0) = false := decide_eq_false h2
      by_cases h3 : L ≤ n
      · rw [if_neg (fun h => h.2.2.1 h3)] at hres
        subst hres
        have d3 : decide (L ≤ n) = true := decide_eq_true h3
        clear h1 h2 h3
        rcases hg with rfl | rfl | rfl
        all_goals
          go_enter Try.func73, Try.ntmps73
          go_wp2_with fail
          go_region
          go_wp2_with fail
          go_quiet (first | (go_at_call 57; exact quiet_more' (HF.out _)) | (go_at_call 58; exact quiet_more' (HF.out _)) | (go_at_call 59; exact quiet_more' (HF.out _)))
          go_wp2_with fail
          go_ret
          exact ⟨rfl, Below.draws HE.out _⟩
      · have d3 : decide (L ≤ n) = false := decide_eq_false h3
        by_cases h4 : (ls.len : Int) < lo
        · rw [if_neg (fun h => h.2.2.2.1 h4)] at hres
          subst hres
          have d4 : decide ((ls.len : Int) < lo) = true := decide_eq_true h4
          clear h1 h2 h3 h4
          rcases hg with rfl | rfl | rfl
          all_goals
            go_enter Try.func73, Try.ntmps73
            go_wp2_with fail
            go_region
            go_wp2_with fail
            go_quiet (first | (go_at_call 57; exact quiet_more' (HF.out _)) | (go_at_call 58; exact quiet_more' (HF.out _)) | (go_at_call 59; exact quiet_more' (HF.out _)))
            go_wp2_with fail
            go_ret
            exact ⟨rfl, Below.draws HE.out _⟩
        · have d4 : decide ((ls.len : Int) < lo) = false := decide_eq_false h4
          by_cases h5 : hi < (ls.len : Int)
          · rw [if_neg (fun h => h.2.2.2.2 h5)] at hres
            subst hres
            have d5 : decide (hi < (ls.len : Int)) = true := decide_eq_true h5
            clear h1 h2 h3 h4 h5
            rcases hg with rfl | rfl | rfl
            all_goals
              go_enter Try.func73, Try.ntmps73
              go_wp2_with fail
              go_region
              go_wp2_with fail
              go_quiet (first | (go_at_call 57; exact quiet_more' (HF.out _)) | (go_at_call 58; exact quiet_more' (HF.out _)) | (go_at_call 59; exact quiet_more' (HF.out _)))
              go_wp2_with fail
              go_ret
              exact ⟨rfl, Below.draws HE.out _⟩
          · have d5 : decide (hi < (ls.len : Int)) = false := decide_eq_false h5
            rw [if_pos ⟨h1, h2, h3, h4, h5⟩] at hres
            have HR := Lib.hid hres
            clear h1 h2 h3 h4 h5 hres
            have hlen := HSL.out.len
            have hC1 : C < w.heap.size + 1 + 1 := by omega
            rcases hg with rfl | rfl | rfl
            all_goals
              go_enter Try.func73, Try.ntmps73
              go_wp2_with fail
              go_region
              go_wp2_with fail
              go_quiet (first | (go_at_call 57; exact quiet_more' (HF.out _)) | (go_at_call 58; exact quiet_more' (HF.out _)) | (go_at_call 59; exact quiet_more' (HF.out _)))
              go_wp2_with fail
              go_loopw [65] (fun i wr => ∃ (j : Nat) (rr : Fo), i = .int .i64 j ∧ Hid (j + rr.len = ls.len) ∧ Hid (∀ b o, la = some ⟨b, o, none⟩ → FoIn w (· < B) rr b (o + j * 3)) ∧ Hid (lvB p m rr = lvB p m ls) ∧ Hid (Below w.heap.size w wr)) (fun i _ => ls.len - (intOf i).toNat)
              case atStart => exact ⟨0, ls, rfl, Lib.hid (by omega), Lib.hid (by rintro b o rfl; simpa using HSL.out.foIn), Lib.hid rfl, Lib.hid (Below.draws HE0.out _)⟩
              case round =>
                obtain ⟨j, rr, rfl, hj, hin, hall, hw⟩ := hrel
                cases rr with
                | nil =>
                  have hlt : ¬ (j : Int) < (ls.len : Int) := by have := hj.out; simp [Fo.len] at this; omega
                  have d' : decide ((j : Int) < (ls.len : Int)) = false := by simpa using hlt
                  go_wp2_with fail
                  go_ret
                  exact ⟨by rw [HR.out, ← hall.out]; rfl, hw.out⟩
                | cons k' n' ks r' =>
                  have hlt : j < ls.len := by have := hj.out; simp [Fo.len] at this; omega
                  have hlt' : (j : Int) < (ls.len : Int) := by omega
                  obtain ⟨b, o, rfl, hbB, hf0⟩ := HSL.out.some (by omega)
                  have hwB : Below B w wr := hw.out.mono HB.out
                  obtain ⟨e0, e1, ⟨a', cap', e2, hsl'⟩, hrest⟩ := ((hin.out b o rfl).below hwB _ _ _ hbB).first
                  have hatr := HAT.out.below hw.out
                  obtain ⟨g0, g1, g2, g3, gz, gC⟩ := hatr.facts
                  have hBr : B ≤ wr.heap.size := Nat.le_trans HB.out hw.out.size
                  have hnew := heap_new wr (.cells #[.int .i64 k', .int .i64 n', .slice a' ks.len cap'] 38)
                  have q0 := cell_at hnew 0
                  have q1 := cell_at hnew 1
                  have q2 := cell_at hnew 2
                  simp only [List.getElem?_toArray, List.getElem?_cons_zero, List.getElem?_cons_succ] at q0 q1 q2
                  have m1 := ((World.cell?_of_block (a := ⟨C, 1, none⟩) (heap_old wr (.cells #[.int .i64 k', .int .i64 n', .slice a' ks.len cap'] 38) gC))).trans g1
                  have m2 := ((World.cell?_of_block (a := ⟨C, 2, none⟩) (heap_old wr (.cells #[.int .i64 k', .int .i64 n', .slice a' ks.len cap'] 38) gC))).trans g2
                  have hb1 : Below wr.heap.size wr (wr.alloc (.cells #[.int .i64 k', .int .i64 n', .slice a' ks.len cap'] 38)) := (Below.refl _ _).alloc (Nat.le_refl _) _
                  have HB1 := Lib.hid hb1
                  have HC := Lib.hid (Right_any p m k' n' ks a' cap' B ((wr.alloc (.cells #[.int .i64 k', .int .i64 n', .slice a' ks.len cap'] 38)).drew) (hsl'.below ((hb1.mono hBr).drew)) (Nat.le_trans hBr hb1.size))
                  have hHC : Hid (lvB p m (.cons k' n' ks r') = (rightB p m k' n' ks && lvB p m r')) := Lib.hid rfl
                  generalize rightB p m k' n' ks = vv at HC hHC
                  clear hnew hb1 hsl' hf0 g0 g3 gz hatr
                  go_wp2_with fail
                  go_region_held3 (fun w' => w'.cell? ⟨wr.heap.size, 0, none⟩ = some (.int .i64 k') ∧ w'.cell? ⟨wr.heap.size, 1, none⟩ = some (.int .i64 n') ∧ w'.cell? ⟨wr.heap.size, 2, none⟩ = some (.slice a' ks.len cap') ∧ w'.cell? ⟨C, 1, none⟩ = some (.int .i64 p) ∧ w'.cell? ⟨C, 2, none⟩ = some (.int .i64 m))
                    (first | exact ⟨q0, q1, q2, m1, m2⟩ | exact tfHeld (W := (wr.alloc (.cells #[.int .i64 k', .int .i64 n', .slice a' ks.len cap'] 38)).drew) HB2 gC (by simp) q0 q1 q2 m1 m2)
                    (first | (go_at_call 74; refine HC.out.mono ?_; rintro e wN ⟨rfl, hbN⟩; have HB2 := Lib.hid hbN))
                  have hE := Lib.hid (Below.step (hw.out.trans (HB1.out.drew.mono hw.out.size)) hbN (by simp))
                  clear hbN HB1 HB2
                  cases vv with
                  | true =>
                    go_wp2_with fail
                    go_roundw
                    case rel => exact ⟨j + 1, r', by go_num, Lib.hid (by have := hj.out; simp [Fo.len] at this; omega), Lib.hid (by rintro b' o' h; cases h; have := (hin.out b o rfl).2.2.2; rwa [show o + (j + 1) * 3 = o + j * 3 + 3 by omega]), Lib.hid (by rw [← hall.out, hHC.out]; rfl), hE⟩
                    case measure => simp [intOf]; omega
                  | false =>
                    go_wp2_with fail
                    go_ret
                    exact ⟨by rw [HR.out, ← hall.out, hHC.out]; rfl, hE.out⟩
  · rw [if_neg (fun h => h1 h.1)] at hres
    subst hres
    have d1 : ((klen : Int) != (K : Int)) = true := by rw [bne_iff_ne]; exact h1
    clear h1
    rcases hg with rfl | rfl | rfl
    all_goals
      go_enter Try.func73, Try.ntmps73
      go_wp2_with fail
      go_region
      go_wp2_with fail
      go_quiet (fail)
      go_wp2_with fail
      go_ret
      exact ⟨rfl, Below.draws HE.out _⟩

theorem tcfits_any (v p m left k n : Int) (ls : Fo) (la : Option Addr) (lc : Nat) (ka : Option Addr) (klen kc C r B : Nat) (w : World) (hat : TkAt w C r p m left) (hB : B ≤ w.heap.size) (hsl : SlIn w (· < B) ls la lc) :
    Calls Try.prog 73 #[.pointer (some ⟨C, 0, none⟩), .agg #[.int .i64 k, .int .i64 n, .slice la ls.len lc, .slice ka klen kc], .int .i64 v] w fun e w' => e = .returned (.bool (tfitsB p m v k n ls klen)) ∧ Below w.heap.size w w' := by
  rcases tkids_cases k with ⟨h1, h7, h0, _⟩ | ⟨hk, he⟩
  · refine tcfits_f v p m left k n (tlo k) (thi k) (tlim v k) (tkids k).toNat (tFn k) (tAddr r k) _ ls la lc ka klen kc C r B w (by unfold tFn; split <;> (try split) <;> simp) (fun W hW => run_tlook W r hW k true h1 h7) (tFn_any k v) hat hB hsl ?_
    split
    · rename_i h
      obtain ⟨a1, a2, a3, a4, a5⟩ := h
      exact tfits_yes (by omega) a2 a3 a4 a5
    · rename_i h
      refine tfits_no ?_
      omega
  · rw [tfits_no (.inl (by omega))]
    exact tcfits_k v p m left k n la ls.len lc ka klen kc C r w hk hat
end Go.Proofs.Ytcnhfoppfihhiaa
/- The contract of the checker's way through a term: it counts down, and tells whether every term in it may be; and of right. -/
namespace Go.Proofs.Ytcnhfoppfihhiaa
open Go.RowKit

/-- What the checker's call answers: whether the term may be; and, if so, what is left stands in its block; nothing else that was there has changed. -/
def TkOk (C r : Nat) (p m : Int) (x : Option Nat) (w : World) (e : Ending) (w' : World) : Prop :=
  e = .returned (.bool x.isSome) ∧ (∃ l : Int, TkAt w' C r p m l ∧ ∀ y : Nat, x = some y → l = y) ∧ w.grownBy w' (some C)
theorem tkHeld {W w' : World} {N C b i : Nat} {x0 x1 x2 x3 y : Value} (h : Hid (W.grownBy w' (some C))) (hN : N < W.heap.size) (hb : b < W.heap.size) (hNC : N ≠ C) (hbC : b ≠ C) (q0 : W.cell? ⟨N, 0, none⟩ = some x0) (q1 : W.cell? ⟨N, 1, none⟩ = some x1) (q2 : W.cell? ⟨N, 2, none⟩ = some x2) (q3 : W.cell? ⟨N, 3, none⟩ = some x3) (m1 : W.cell? ⟨b, i, none⟩ = some y) :
    w'.cell? ⟨N, 0, none⟩ = some x0 ∧ w'.cell? ⟨N, 1, none⟩ = some x1 ∧ w'.cell? ⟨N, 2, none⟩ = some x2 ∧ w'.cell? ⟨N, 3, none⟩ = some x3 ∧ w'.cell? ⟨b, i, none⟩ = some y :=
  ⟨(World.cell?_of_block (a := ⟨N, 0, none⟩) (Only.block h.out hN hNC)).trans q0, (World.cell?_of_block (a := ⟨N, 1, none⟩) (Only.block h.out hN hNC)).trans q1, (World.cell?_of_block (a := ⟨N, 2, none⟩) (Only.block h.out hN hNC)).trans q2, (World.cell?_of_block (a := ⟨N, 3, none⟩) (Only.block h.out hN hNC)).trans q3, (World.cell?_of_block (a := ⟨b, i, none⟩) (Only.block h.out hb hbC)).trans m1⟩
theorem ctAll_nil_of (p m : Int) {f : Ft} (h : f.len = 0) (k0 : Int) (i : Nat) (v : Int) (d left : Nat) : ctAll p m f k0 i v d left = some left := by rw [Ft.len_zero h]; rfl

set_option maxRecDepth 100000 in
set_option maxHeartbeats 4000000 in
theorem tcright_any (p m : Int) (s : Nat) : ∀ (f : Ft), f.size < s → ∀ (k n v : Int) (ls : Fo) (d left : Nat) (la ka : Option Addr) (lc kc B C r : Nat) (w : World), SlIn w (· < B) ls la lc → TlIn w (· < B) f ka kc → B ≤ C → d ≤ 30 → left ≤ 600 → 0 ≤ v → v + d ≤ 2000 → TkAt w C r p m left →
    Calls Try.prog 56 #[.pointer (some ⟨C, 0, none⟩), .agg #[.int .i64 k, .int .i64 n, .slice la ls.len lc, .slice ka f.len kc], .int .i64 v, .int .i64 d] w (TkOk C r p m (ctOne p m v k n ls f d left) w) := by
  induction s with
  | zero => intro f hs; omega
  | succ s ih =>
    intro f hs k n v ls d left la ka lc kc B C r w hls hsl hB hd hleft hv0 hvd hat
    have IH := Lib.hid ih
    clear ih
    have hlen := hsl.len
    obtain ⟨c0, c1, c2, c3, f3, hC⟩ := hat.facts
    by_cases h1 : d = 0
    · rw [ctOne_no (.inl h1)]
      subst h1
      go_enter Try.func56, Try.ntmps56
      go_wp2_with fail
      go_ret
      exact ⟨rfl, ⟨_, hat.alloc _, fun y hy => by cases hy⟩, Only.alloc _ _ _⟩
    · have d1 : ((d : Int) == 0) = false := beq_eq_false_iff_ne.2 (by omega)
      by_cases h2 : left = 0
      · rw [ctOne_no (.inr (.inl h2))]
        have d2 : ((left : Int) == 0) = true := beq_iff_eq.2 (by omega)
        go_enter Try.func56, Try.ntmps56
        go_wp2_with fail
        go_ret
        exact ⟨rfl, ⟨_, hat.alloc _, fun y hy => by cases hy⟩, Only.alloc _ _ _⟩
      · have d2 : ((left : Int) == 0) = false := beq_eq_false_iff_ne.2 (by omega)
        have hb0 : Below w.heap.size w (w.alloc (.cells #[.int .i64 k, .int .i64 n, .slice la ls.len lc, .slice ka f.len kc] 29)) := (Below.refl _ _).alloc (Nat.le_refl _) _
        have HF := Lib.hid (tcfits_any v p m left k n ls la lc ka f.len kc C r B (w.alloc (.cells #[.int .i64 k, .int .i64 n, .slice la ls.len lc, .slice ka f.len kc] 29)) (hat.alloc _) (by simp; omega) (hls.below (hb0.mono (by omega))))
        have HV : Hid (∀ x, tfitsB p m v k n ls f.len = x → ctOne p m v k n ls f d left = if x then ctAll p m f k 0 v (d - 1) (left - 1) else none) := Lib.hid (fun x hx => by
          unfold ctOne; rw [hx]; cases x <;> simp [h1, h2])
        have HT : Hid (tfitsB p m v k n ls f.len = true → (f.len : Int) = tkids k) := Lib.hid tfits_len
        generalize tfitsB p m v k n ls f.len = x at HF HV HT
        have HV' := Lib.hid (HV.out x rfl)
        clear HV hb0
        cases x with
        | false =>
          rw [HV'.out]
          go_enter Try.func56, Try.ntmps56
          go_wp2_with fail
          refine HF.out.mono ?_
          rintro e w1 ⟨rfl, hb1⟩
          go_wp2_with fail
          go_ret
          exact ⟨rfl, ⟨_, (hat.alloc _).below hb1, fun y hy => by cases hy⟩, Only.after (Only.alloc _ _ _) (Only.below _ hb1)⟩
        | true =>
          have hk : 1 ≤ k ∧ k ≤ 7 ∧ (tkids k).toNat = f.len := by have := tkids_cases k; have := HT.out rfl; omega
          obtain ⟨hk1, hk7, hkn⟩ := hk
          have hK := HT
          clear HT
          go_enter Try.func56, Try.ntmps56
          go_wp2_with fail
          refine HF.out.mono ?_
          rintro e w1 ⟨rfl, hb1⟩
          have hat1 := (hat.alloc (.cells #[.int .i64 k, .int .i64 n, .slice la ls.len lc, .slice ka f.len kc] 29)).below hb1
          obtain ⟨g0, g1, g2, g3, fz, gC⟩ := hat1.facts
          have hb1' : Below (w.heap.size + 1) (w.alloc (.cells #[.int .i64 k, .int .i64 n, .slice la ls.len lc, .slice ka f.len kc] 29)) w1 := by simpa using hb1
          have b0 := bcell hb1' w.heap.size 0 (by omega)
          have b3 := bcell hb1' w.heap.size 3 (by omega)
          simp at b0 b3
          have hCn : C ≠ w.heap.size := by omega
          have hat2 := hat1.set ((left : Int) - 1)
          have hlook := run_tlook (w1.setCell ⟨C, 3, none⟩ (.int .i64 ((left : Int) - 1))).drew r hat2.2.1.drew k false hk1 hk7
          simp only [tRow, tRw, hkn] at hlook
          have hlook' : (Instr.lookup 76 (.map (some r)) (.int .i64 k) false).run Try.prog (w1.setCell ⟨C, 3, none⟩ (.int .i64 ((left : Int) - 1))).drew = .ok (.agg #[.func (.func (tFn k)) #[] #[], .int .i64 (tlo k), .int .i64 (thi k), .slice (tAddr r k) f.len f.len]) (w1.setCell ⟨C, 3, none⟩ (.int .i64 ((left : Int) - 1))).drew := hlook
          clear hlook hkn
          have fd := run_tfield3
          have HG0 : Hid (w.grownBy (w1.setCell ⟨C, 3, none⟩ (.int .i64 ((left : Int) - 1))) (some C)) := Lib.hid (Only.after (Only.after (Only.alloc _ _ _) (Only.below _ hb1)) (Only.set _ _ _ _))
          have HA2 := Lib.hid hat2
          clear hat2 hat1 hb1 hb1'
          go_wp2_with fail
          go_region
          go_wp2_with fail
          go_loopw [46] (fun i wr => ∃ (j : Nat) (rr : Ft) (q : Nat), i = .int .i64 j ∧ q ≤ 600 ∧ Hid (j + rr.len = f.len) ∧ Hid (rr.size ≤ f.size) ∧
              Hid (∀ b o, ka = some ⟨b, o, none⟩ → FtIn w (· < B) rr b (o + j * 4)) ∧ Hid (ctAll p m rr k j v (d - 1) q = ctAll p m f k 0 v (d - 1) (left - 1)) ∧ Hid (TkAt wr C r p m q) ∧ Hid (w.grownBy wr (some C)))
            (fun i _ => f.len - (intOf i).toNat)
          case atStart => exact ⟨0, f, left - 1, rfl, by omega, Lib.hid (by omega), Lib.hid (Nat.le_refl _), Lib.hid (by rintro b o rfl; simpa using hsl.ftIn), Lib.hid rfl, Lib.hid (by rw [show ((left - 1 : Nat) : Int) = (left : Int) - 1 by omega]; exact HA2.out.below (Below.refl _ _).drew), Lib.hid (Only.draws HG0.out 1)⟩
          case round =>
            obtain ⟨j, rr, q, rfl, hq, hj, hrs, hin, hall, hatr, hgr⟩ := hrel
            cases rr with
            | nil =>
              have hlt : ¬ (j : Int) < (f.len : Int) := by have := hj.out; simp [Ft.len] at this; omega
              have d' : decide ((j : Int) < (f.len : Int)) = false := by simpa using hlt
              go_wp2_with fail
              go_ret
              have hx : ctOne p m v k n ls f d left = some q := by rw [HV'.out, if_pos trivial, ← hall.out]; rfl
              rw [hx]
              exact ⟨rfl, ⟨_, hatr.out, fun y hy => by cases hy; rfl⟩, hgr.out⟩
            | cons k' n' ls' ks r' =>
              have hlt : j < f.len := by have := hj.out; simp [Ft.len] at this; omega
              have hlt' : (j : Int) < (f.len : Int) := by omega
              obtain ⟨b, o, rfl, hbB, hf0⟩ := hsl.some (by omega)
              obtain ⟨e0, e1, ⟨la', lc', e2, hls'⟩, ⟨ka', kc', e3, hsl'⟩, hrest⟩ := ((hin.out b o rfl).only hgr.out hB (by omega) hbB).first
              have hks : ks.size < s := by have := hrs.out; simp [Ft.size] at this; omega
              have HC := Lib.hid (ctAll_cons p m k' n' ls' ks r' k j v (d - 1) q)
              obtain ⟨bb, hbb, hb1, hb2, hb3⟩ := hatr.out.2.1.own (k := k) (i := j) (by have := hK.out trivial; omega)
              have hrC := hatr.out.2.2
              obtain ⟨_, _, _, _, _, hCr⟩ := hatr.out.facts
              have hnew := heap_new wr (.cells #[.int .i64 k', .int .i64 n', .slice la' ls'.len lc', .slice ka' ks.len kc'] 29)
              obtain ⟨q0, q1, q2, q3⟩ := cells4 hnew
              have m1 := (World.cell?_of_block (a := ⟨bb, j, none⟩) (heap_old wr (.cells #[.int .i64 k', .int .i64 n', .slice la' ls'.len lc', .slice ka' ks.len kc'] 29) (by omega : bb < wr.heap.size))).trans hb3
              have hbind : 0 ≤ bindK k j ∧ bindK k j ≤ 1 := by unfold bindK; split <;> omega
              have hcl := Lib.hid (ctOne_le p m (v + bindK k j) k' n' ls' ks (d - 1) q)
              have HCL := Lib.hid (IH.out ks hks k' n' (v + bindK k j) ls' (d - 1) q la' ka' lc' kc' B C r (wr.alloc (.cells #[.int .i64 k', .int .i64 n', .slice la' ls'.len lc', .slice ka' ks.len kc'] 29)).drew ((hls'.only (Only.alloc _ C _) hB (by omega)).below (Below.refl _ _).drew) ((hsl'.only (Only.alloc _ C _) hB (by omega)).below (Below.refl _ _).drew) hB (by omega) hq (by omega) (by omega) ((hatr.out.alloc _).below (Below.refl _ _).drew))
              have HW1 : Hid (IntKind.i64.wrap (v + bindK k j) = v + bindK k j) := Lib.hid (IntWalk.i64_in _ (by omega))
              have HW2 : Hid (IntKind.i64.wrap ((d : Int) - 1) = ((d - 1 : Nat) : Int)) := Lib.hid (by rw [IntWalk.i64_in _ (by omega)]; omega)
              generalize ctOne p m (v + bindK k j) k' n' ls' ks (d - 1) q = x at HC HCL hcl
              have HGR := Lib.hid (Only.draws (Only.after hgr.out (Only.alloc wr C (.cells #[.int .i64 k', .int .i64 n', .slice la' ls'.len lc', .slice ka' ks.len kc'] 29))) 1)
              rw [hbb]
              have hsz : wr.heap.size ≠ C := by omega
              have hbC : bb ≠ C := by omega
              have hbw : bb < wr.heap.size + 1 := by omega
              clear hnew hb3 hls' hsl' hf0 hrest hatr hK c0 c1 c2 c3 f3 g0 g1 g2 g3 fz b0 hlook' fd HA2 hbind hb1 hb2 hrC
              go_wp2_with fail
              go_region_held3 (fun w' => w'.cell? ⟨wr.heap.size, 0, none⟩ = some (.int .i64 k') ∧ w'.cell? ⟨wr.heap.size, 1, none⟩ = some (.int .i64 n') ∧ w'.cell? ⟨wr.heap.size, 2, none⟩ = some (.slice la' ls'.len lc') ∧ w'.cell? ⟨wr.heap.size, 3, none⟩ = some (.slice ka' ks.len kc') ∧ w'.cell? ⟨bb, j, none⟩ = some (.int .i64 (bindK k j)))
                (first | exact ⟨q0, q1, q2, q3, m1⟩ | exact tkHeld (W := (wr.alloc (.cells #[.int .i64 k', .int .i64 n', .slice la' ls'.len lc', .slice ka' ks.len kc'] 29)).drew) HB2 (by simp) (by simpa using hbw) hsz hbC q0 q1 q2 q3 m1)
                (first | (go_at_call 56; rw [HW1.out, HW2.out]; refine HCL.out.mono ?_; rintro e wN ⟨he, ⟨l, hat2, hl⟩, hg2⟩; subst he; have HB2 := Lib.hid hg2; have HAT := Lib.hid hat2; have HL := Lib.hid hl; clear hat2 hl hg2))
              have hg' := Lib.hid (Only.after HGR.out HB2.out)
              clear q0 q1 q2 q3 m1 HCL HW1 HW2
              cases x with
              | none =>
                go_wp2_with fail
                go_ret
                have hx : ctOne p m v k n ls f d left = none := by rw [HV'.out, if_pos trivial, ← hall.out, HC.out]
                rw [hx]
                exact ⟨rfl, ⟨_, HAT.out, fun y hy => by cases hy⟩, hg'.out⟩
              | some x =>
                have hx := hcl.out x rfl
                have hlx := HL.out x rfl
                subst hlx
                clear HL
                go_wp2_with fail
                go_roundw
                case rel => exact ⟨j + 1, r', x, by go_num, by omega, Lib.hid (by have := hj.out; simp [Ft.len] at this; omega), Lib.hid (by have := hrs.out; simp [Ft.size] at this; omega), Lib.hid (by rintro b' o' h; cases h; have := (hin.out b o rfl).2.2.2.2; rwa [show o + (j + 1) * 4 = o + j * 4 + 4 by omega]), Lib.hid (by rw [← hall.out, HC.out]), HAT, hg'⟩
                case measure => simp [intOf]; omega
end Go.Proofs.Ytcnhfoppfihhiaa
/- The contracts of right, wellFormed and Right: whether a term is right. No condition but that the term lies in memory. -/
namespace Go.Proofs.Ytcnhfoppfihhiaa
open Go.RowKit

set_option maxRecDepth 100000 in
set_option maxHeartbeats 4000000 in
theorem tright_any (p m v k n : Int) (ls : Fo) (f : Ft) (la ka : Option Addr) (lc kc B r : Nat) (w : World) (hls : SlIn w (· < B) ls la lc) (hsl : TlIn w (· < B) f ka kc) (hB : B ≤ w.heap.size) (hm : TabAt w r) :
    Calls Try.prog 41 #[.map (some r), .agg #[.int .i64 k, .int .i64 n, .slice la ls.len lc, .slice ka f.len kc], .int .i64 v, .int .i64 p, .int .i64 m] w fun e w' => e = .returned (.bool (tRightB p m v k n ls f)) ∧ Below w.heap.size w w' := by
  have hr := hm.lt
  have HM := Lib.hid hm
  clear hm
  by_cases h1 : v < 0
  · rw [tRightB_out k n ls f (by omega)]
    go_enter Try.func41, Try.ntmps41
    go_wp2_with fail
    go_ret
    exact ⟨rfl, (Below.refl _ _).alloc (Nat.le_refl _) _⟩
  · by_cases h2 : 1000 < v
    · rw [tRightB_out k n ls f (by omega)]
      go_enter Try.func41, Try.ntmps41
      go_wp2_with fail
      go_ret
      exact ⟨rfl, (Below.refl _ _).alloc (Nat.le_refl _) _⟩
    · by_cases h3 : p < 0
      · rw [tRightB_out k n ls f (by omega)]
        go_enter Try.func41, Try.ntmps41
        go_wp2_with fail
        go_ret
        exact ⟨rfl, (Below.refl _ _).alloc (Nat.le_refl _) _⟩
      · by_cases h4 : 5 < p
        · rw [tRightB_out k n ls f (by omega)]
          go_enter Try.func41, Try.ntmps41
          go_wp2_with fail
          go_ret
          exact ⟨rfl, (Below.refl _ _).alloc (Nat.le_refl _) _⟩
        · by_cases h5 : m < 0
          · rw [tRightB_out k n ls f (by omega)]
            go_enter Try.func41, Try.ntmps41
            go_wp2_with fail
            go_ret
            exact ⟨rfl, (Below.refl _ _).alloc (Nat.le_refl _) _⟩
          · by_cases h6 : 10 < m
            · rw [tRightB_out k n ls f (by omega)]
              go_enter Try.func41, Try.ntmps41
              go_wp2_with fail
              go_ret
              exact ⟨rfl, (Below.refl _ _).alloc (Nat.le_refl _) _⟩
            · rw [tRightB_c k n ls f (by omega)]
              go_enter Try.func41, Try.ntmps41
              go_wp2_with fail
              have hb : Below w.heap.size w ((w.alloc (.cells #[.int .i64 k, .int .i64 n, .slice la ls.len lc, .slice ka f.len kc] 29)).alloc (.cells #[.map (some r), .int .i64 p, .int .i64 m, .int .i64 600] 96)) := ((Below.refl _ _).alloc (Nat.le_refl _) _).alloc (by simp) _
              have hat : TkAt ((w.alloc (.cells #[.int .i64 k, .int .i64 n, .slice la ls.len lc, .slice ka f.len kc] 29)).alloc (.cells #[.map (some r), .int .i64 p, .int .i64 m, .int .i64 600] 96)) (w.heap.size + 1) r p m ((600 : Nat) : Int) :=
                ⟨by have := heap_new (w.alloc (.cells #[.int .i64 k, .int .i64 n, .slice la ls.len lc, .slice ka f.len kc] 29)) (.cells #[.map (some r), .int .i64 p, .int .i64 m, .int .i64 600] 96); simpa using this, HM.out.below hb hr, by omega⟩
              refine (tcright_any p m (f.size + 1) f (Nat.lt_succ_self _) k n v ls 30 600 la ka lc kc B (w.heap.size + 1) r _ (hls.below (hb.mono hB)) (hsl.below (hb.mono hB)) (by omega) (by omega) (by omega) (by omega) (by omega) hat).mono ?_
              rintro e w2 ⟨rfl, _, hg⟩
              have hg' := Lib.hid hg
              go_wp2_with fail
              go_ret
              exact ⟨rfl, ((hb.trans (Below.mk hg.os hg.tape hg.output hg.size (fun i hi => Only.block hg (by simp; omega) (by omega)))))⟩
theorem tRHeld {B : Nat} {W w' : World} {N : Nat} {x0 x1 x2 x3 : Value} (h : Below B W w') (hN : N < B) (q0 : W.cell? ⟨N, 0, none⟩ = some x0) (q1 : W.cell? ⟨N, 1, none⟩ = some x1) (q2 : W.cell? ⟨N, 2, none⟩ = some x2) (q3 : W.cell? ⟨N, 3, none⟩ = some x3) :
    Hid (Below B W w') ∧ w'.cell? ⟨N, 0, none⟩ = some x0 ∧ w'.cell? ⟨N, 1, none⟩ = some x1 ∧ w'.cell? ⟨N, 2, none⟩ = some x2 ∧ w'.cell? ⟨N, 3, none⟩ = some x3 :=
  ⟨Lib.hid h, (bcell h _ _ hN).trans q0, (bcell h _ _ hN).trans q1, (bcell h _ _ hN).trans q2, (bcell h _ _ hN).trans q3⟩

set_option maxRecDepth 100000 in
set_option maxHeartbeats 2000000 in
theorem tRight_any (p m v k n : Int) (ls : Fo) (f : Ft) (la ka : Option Addr) (lc kc B : Nat) (w : World) (hls : SlIn w (· < B) ls la lc) (hsl : TlIn w (· < B) f ka kc) (hB : B ≤ w.heap.size) :
    Calls Try.prog 24 #[.agg #[.int .i64 k, .int .i64 n, .slice la ls.len lc, .slice ka f.len kc], .int .i64 v, .int .i64 p, .int .i64 m] w fun e w' => e = .returned (.bool (tRightB p m v k n ls f)) ∧ Below w.heap.size w w' := by
  have HR : Hid (∀ (W : World) (r : Nat), Below w.heap.size w W → TabAt W r → Calls Try.prog 41 #[.map (some r), .agg #[.int .i64 k, .int .i64 n, .slice la ls.len lc, .slice ka f.len kc], .int .i64 v, .int .i64 p, .int .i64 m] W fun e w' => e = .returned (.bool (tRightB p m v k n ls f)) ∧ Below W.heap.size W w') := Lib.hid (by
    intro W r h h2
    exact tright_any p m v k n ls f la ka lc kc B r W (hls.below (h.mono hB)) (hsl.below (h.mono hB)) (Nat.le_trans hB h.size) h2)
  generalize tRightB p m v k n ls f = x at HR
  have hb : Below w.heap.size w (w.alloc (.cells #[.int .i64 k, .int .i64 n, .slice la ls.len lc, .slice ka f.len kc] 29)).drew := ((Below.refl _ _).alloc (Nat.le_refl _) _).drew
  have hnew := heap_new w (.cells #[.int .i64 k, .int .i64 n, .slice la ls.len lc, .slice ka f.len kc] 29)
  obtain ⟨q0, q1, q2, q3⟩ := cells4 hnew
  have HB := Lib.hid hb
  clear hls hsl hnew hb
  go_enter Try.func24, Try.ntmps24
  go_wp2_with fail
  go_region_held3 (fun w' => Hid (Below (w.heap.size + 1) (w.alloc (.cells #[.int .i64 k, .int .i64 n, .slice la ls.len lc, .slice ka f.len kc] 29)).drew w') ∧ w'.cell? ⟨w.heap.size, 0, none⟩ = some (.int .i64 k) ∧ w'.cell? ⟨w.heap.size, 1, none⟩ = some (.int .i64 n) ∧ w'.cell? ⟨w.heap.size, 2, none⟩ = some (.slice la ls.len lc) ∧ w'.cell? ⟨w.heap.size, 3, none⟩ = some (.slice ka f.len kc))
    (first | exact ⟨Lib.hid (Below.refl _ _), q0, q1, q2, q3⟩ | (go_split_ands; exact tRHeld (Below.step (Hid.out (by assumption)) hbN (by simp)) (Nat.lt_succ_self _) q0 q1 q2 q3))
    (first | (go_at_call 42; go_split_ands; refine (tkinds_any _).mono ?_; rintro e wN ⟨rfl, hT, hbN⟩; have HT : Hid (TabAt wN (w.heap.size + 1)) := Lib.hid (by simpa using hT); clear hT) | (go_at_call 41; go_split_ands; refine (HR.out wN (w.heap.size + 1) (HB.out.trans (Below.mono (Hid.out (by assumption)) (Nat.le_succ _))) HT.out).mono ?_; rintro e wN ⟨rfl, hbN⟩))
  all_goals go_split_ands
  all_goals have hEE := Lib.hid (HB.out.trans (Below.mono (Hid.out (by assumption : Hid (Below (w.heap.size + 1) (w.alloc (.cells #[.int .i64 k, .int .i64 n, .slice la ls.len lc, .slice ka f.len kc] 29)).drew wN))) (Nat.le_succ _)))
  all_goals go_wp2_with fail
  all_goals go_ret
  all_goals exact ⟨rfl, hEE.out⟩
end Go.Proofs.Ytcnhfoppfihhiaa
/- The contracts of the program's own mayReplace and Sub of levels in terms: the term with others put in, or what was wrong; the answer lies in the blocks of what was given, or in new ones. No condition but that the term and the levels lie in memory. -/
namespace Go.Proofs.Ytcnhfoppfihhiaa
open Go.RowKit

theorem subE_zero (P Q : Fo) : (subE P Q 1 0 .nil == 0) = parB P Q := by
  have hz : rightB 5 10 1 0 .nil = true := by decide
  have hs : rightT (sb1 P Q 1 0 (sbF P Q .nil)) = true := by
    unfold sb1 sv
    rw [if_neg (by omega), if_neg (by omega)]
    exact hz
  unfold subE okS parB
  rw [hs, hz, Bool.true_and, if_pos rfl]
  cases (decide (P.len ≤ 5) && (decide (Q.len ≤ 10) && (allR P && allR Q))) <;> rfl

set_option maxRecDepth 100000 in
set_option maxHeartbeats 2000000 in
theorem qMay_any (P Q : Fo) (ap aq : Option Addr) (cp cq B : Nat) (w : World) (hsp : SlIn w (· < B) P ap cp) (hsq : SlIn w (· < B) Q aq cq) (hB : B ≤ w.heap.size) :
    Calls Try.prog 25 #[.slice ap P.len cp, .slice aq Q.len cq] w fun e w' => e = .returned (.bool (parB P Q)) ∧ Below w.heap.size w w' := by
  have HC := Lib.hid (sSub_off P Q 1 0 .nil none ap aq 0 cp cq B w (SlIn.none _ _) hsp hsq hB)
  have HE := Lib.hid (subE_zero P Q)
  rw [show Fo.nil.len = 0 from rfl] at HC
  generalize subE P Q 1 0 .nil = E at HC HE
  generalize subT P Q 1 0 .nil = T at HC
  generalize parB P Q = v at HE
  clear hsp hsq
  go_enter Try.func25, Try.ntmps25
  go_wp2_with fail
  refine HC.out.mono ?_
  rintro e w2 ⟨k2, n2, F2, x2, c2, -, rfl, -, t2⟩
  have hb := t2.alloc t2.size (.cells #[.int .i64 k2, .int .i64 n2, .slice x2 F2.len c2] 38)
  have HB := Lib.hid hb
  have hE := HE.out
  clear t2 hb HE
  go_wp2_with fail
  go_ret
  first | exact ⟨rfl, HB.out⟩ | exact ⟨by rw [hE], HB.out⟩

/-- Behind the two questions. -/
theorem qA_R {P Q : Fo} {T : Tm} (h1 : T.sh = true) (h2 : parB P Q = true) : qA P Q T = qRp P Q T := by
  unfold qA qRp
  rw [if_pos ⟨h1, h2⟩]
theorem qA_arg {P Q : Fo} {T : Tm} (h : T.sh = false ∨ parB P Q = false) : qA P Q T = (tZ, 1) := by
  unfold qA
  rw [if_neg]
  rintro ⟨h1, h2⟩
  rcases h with h | h
  · rw [h1] at h; cases h
  · rw [h2] at h; cases h

set_option maxRecDepth 100000 in
set_option maxHeartbeats 8000000 in
theorem qSub_off (P Q : Fo) (T : Tm) (la ka ap aq : Option Addr) (lc kc cp cq B N : Nat) (w : World) (hlr : RwIn w B T.ls la lc) (hls : SlIn w (· < N) T.ls la lc) (hsl : TlIn w (· < B) T.ks ka kc) (hsp : SlIn w (· < B) P ap cp) (hsq : SlIn w (· < B) Q aq cq) (hB : B ≤ w.heap.size) (hBN : B ≤ N) (hN : N ≤ w.heap.size) :
    Calls Try.prog 10 #[.agg #[.int .i64 T.k, .int .i64 T.n, .slice la T.ls.len lc, .slice ka T.ks.len kc], .slice ap P.len cp, .slice aq Q.len cq] w (QrPost B (qA P Q T) w) := by
  have hb0 : Below (w.heap.size + 1 + 1) (TuW w T.k T.n la ka T.ls.len lc T.ks.len kc) (TuW w T.k T.n la ka T.ls.len lc T.ks.len kc) := Below.refl _ _
  have HL : Hid (∀ W, Below (w.heap.size + 1 + 1) (TuW w T.k T.n la ka T.ls.len lc T.ks.len kc) W → Calls Try.prog 24 #[.agg #[.int .i64 T.k, .int .i64 T.n, .slice la T.ls.len lc, .slice ka T.ks.len kc], .int .i64 1000, .int .i64 5, .int .i64 10] W fun e w' => e = .returned (.bool T.sh) ∧ Below W.heap.size W w') := Lib.hid (fun W h =>
    tRight_any 5 10 1000 T.k T.n T.ls T.ks la ka lc kc N W (hls.below ((tuW_at h).2.2.1.mono hN)) ((hsl.mono hBN).below ((tuW_at h).2.2.1.mono hN)) (by have := (tuW_at h).2.2.2; omega))
  have HP : Hid (∀ W, Below (w.heap.size + 1 + 1) (TuW w T.k T.n la ka T.ls.len lc T.ks.len kc) W → Calls Try.prog 25 #[.slice ap P.len cp, .slice aq Q.len cq] W fun e w' => e = .returned (.bool (parB P Q)) ∧ Below W.heap.size W w') := Lib.hid (fun W h =>
    qMay_any P Q ap aq cp cq B W (hsp.below ((tuW_at h).2.2.1.mono hB)) (hsq.below ((tuW_at h).2.2.1.mono hB)) (by have := (tuW_at h).2.2.2; omega))
  have HSB : Hid (∀ (W : World), Below (w.heap.size + 1 + 1) (TuW w T.k T.n la ka T.ls.len lc T.ks.len kc) W → T.sh = true → Calls Try.prog 26 #[.agg #[.int .i64 T.k, .int .i64 T.n, .slice la T.ls.len lc, .slice ka T.ks.len kc], .slice ap P.len cp, .slice aq Q.len cq] W (QrPost B (qRp P Q T) W)) := Lib.hid (fun W hb r1 => by
    obtain ⟨_, _, y5, y6⟩ := tuW_at hb
    have yB := y5.mono hB
    obtain ⟨p1, p2, p3⟩ := sh_small9 r1
    exact qRep_any P Q ap aq cp cq B (T.ks.size + 1) T.ks (Nat.lt_succ_self _) p1 p2 T.k T.n T.ls la ka lc kc W p3 (hsp.below yB) (hsq.below yB) (hlr.later hB y5) (hsl.below yB) (by omega))
  have HNO : Hid (T.sh = false ∨ parB P Q = false → qA P Q T = (tZ, 1)) := Lib.hid qA_arg
  have HYES : Hid (T.sh = true → parB P Q = true → qA P Q T = qRp P Q T) := Lib.hid qA_R
  have HB0 := Lib.hid hb0
  clear hls hlr hsl hsp hsq hb0
  generalize hv : T.sh = v at HL HSB HNO HYES
  generalize hvp : parB P Q = vp at HP HNO HYES
  clear hv hvp
  go_enter Try.func10, Try.ntmps10
  go_wp2_with fail
  refine (HL.out _ HB0.out).mono ?_
  rintro e w1 ⟨rfl, hb1⟩
  have B1 := Lib.hid (tuW_step HB0.out hb1)
  clear hb1
  obtain ⟨⟨x1, x2, x3, x4⟩, ⟨z1, z2, z3, z4⟩, zf, zl⟩ := tuW_cells B1.out
  cases v with
  | false =>
    have HE := Lib.hid (HNO.out (.inl rfl))
    have HF := Lib.hid (QrPost.no (B := B) (E := 1) (tuW_low B1.out (.int .i64 0) (.int .i64 0) (.slice none 0 0) (.slice none 0 0)))
    go_wp2_with fail
    refine bodyPost_ret (v := .tuple #[.agg #[.int .i64 0, .int .i64 0, .slice none 0 0, .slice none 0 0], .int .i64 1]) (by simp [results, Try.results10, go_sem, z1, z2, z3, z4]) rfl ?_
    rw [HE.out]
    exact HF.out
  | true =>
    go_wp2_with fail
    refine (HP.out _ B1.out).mono ?_
    rintro e w2 ⟨rfl, hb2⟩
    have B2 := Lib.hid (tuW_step B1.out hb2)
    clear hb2 x1 x2 x3 x4 z1 z2 z3 z4 zf zl
    obtain ⟨⟨x1, x2, x3, x4⟩, ⟨z1, z2, z3, z4⟩, zf, zl⟩ := tuW_cells B2.out
    cases vp with
    | false =>
      have HE := Lib.hid (HNO.out (.inr rfl))
      have HF := Lib.hid (QrPost.no (B := B) (E := 1) (tuW_low B2.out (.int .i64 0) (.int .i64 0) (.slice none 0 0) (.slice none 0 0)))
      go_wp2_with fail
      refine bodyPost_ret (v := .tuple #[.agg #[.int .i64 0, .int .i64 0, .slice none 0 0, .slice none 0 0], .int .i64 1]) (by simp [results, Try.results10, go_sem, z1, z2, z3, z4]) rfl ?_
      rw [HE.out]
      exact HF.out
    | true =>
      have HE := Lib.hid (HYES.out (by first | trivial | rfl) (by first | trivial | rfl))
      have HC := Lib.hid (HSB.out w2 B2.out (by first | trivial | rfl))
      clear HYES HNO HSB
      generalize qRp P Q T = A at HE HC
      obtain ⟨U, E⟩ := A
      go_wp2_with fail
      refine HC.out.mono ?_
      rintro e w4 ⟨y1, m1, y2, m2, rfl, t0, t1, hb4⟩
      have B4 := Lib.hid (tuW_step B2.out hb4)
      have hz2 := (tuW_at B2.out).2.2.2
      have hg := set4_only (w := w4) (w.heap.size + 1) (.int .i64 U.k) (.int .i64 U.n) (.slice y1 U.ls.len m1) (.slice y2 U.ks.len m2)
      have hgz := hg.size
      have HF : Hid (QrPost B (U, E) w (.returned (.tuple #[.agg #[.int .i64 U.k, .int .i64 U.n, .slice y1 U.ls.len m1, .slice y2 U.ks.len m2], .int .i64 E])) ((((w4.setCell ⟨w.heap.size + 1, 0, none⟩ (.int .i64 U.k)).setCell ⟨w.heap.size + 1, 1, none⟩ (.int .i64 U.n)).setCell ⟨w.heap.size + 1, 2, none⟩ (.slice y1 U.ls.len m1)).setCell ⟨w.heap.size + 1, 3, none⟩ (.slice y2 U.ks.len m2))) := Lib.hid
        ⟨y1, m1, y2, m2, rfl, (t0.keep (fun b hb => Only.block hg (by omega) (by omega))).weak (fun b hb => by omega), t1.turn (fun b hb => Only.block hg (by omega) (by omega)) (fun b hb => by omega), tuW_low B4.out _ _ _ _⟩
      clear hb4 x1 x2 x3 x4 z1 z2 z3 z4 zf zl t0 t1 hg hgz hz2
      obtain ⟨⟨x1, x2, x3, x4⟩, ⟨z1, z2, z3, z4⟩, zf, zl⟩ := tuW_cells B4.out
      go_wp2_with fail
      refine bodyPost_ret (v := .tuple #[.agg #[.int .i64 U.k, .int .i64 U.n, .slice y1 U.ls.len m1, .slice y2 U.ks.len m2], .int .i64 E]) (by simp [results, Try.results10, go_sem, z1, z2, z3, z4]) rfl ?_
      rw [HE.out]
      exact HF.out
end Go.Proofs.Ytcnhfoppfihhiaa
/- A range over an iterator that calls itself: what such an iterator promises, and what the statement comes to, in our own words: a round may change the blocks of which a predicate tells, and new ones; the iterator reads others. No condition but those that stand in each statement. -/
namespace Go.Proofs.Ytcnhfoppfihhiaa
open Go.RowKit Go.Shelf

/-- The state of a loop's owner: it stays as it is while memory grows and while objects from B on that hold no cells are changed; its own blocks are there. -/
def Inv (B : Nat) (J : (Nat → Prop) → List Int → World → Prop) : Prop :=
  (∀ O s W W' row, J O s W → W.grownBy W' row → (∀ r, row = some r → B ≤ r ∧ ∃ o : Obj, W.heap[r]? = some o ∧ o.isCells = false) → J O s W') ∧ ∀ O s W, J O s W → ∀ b, O b → b < W.heap.size
/-- Each round goes on. -/
def Rounds (l : Nat) (xs : List Int) (J : (Nat → Prop) → List Int → World → Prop) : Prop :=
  ∀ (m : Nat) (O : Nat → Prop) (pre : List Int) (x : Int) (W : World), J O pre W → pre ++ [x] <+: xs → YieldAt Fence.wide m Try.prog l #[.int .i64 x] W fun e W' => e = .returned (.bool true) ∧ ∃ O', J O' (pre ++ [x]) W' ∧ Turn O W O' W'
/-- The function g, with what it has captured, tells xs; it reads blocks of which D tells. -/
def Tells (D : Nat → Prop) (g : Nat) (lb : Array Value) (xs : List Int) (W : World) : Prop :=
  ∀ (l : Nat) (J : (Nat → Prop) → List Int → World → Prop) (O : Nat → Prop), (∀ b, D b → ¬ O b) → Inv W.heap.size J → Rounds l xs J → J O [] W → ∀ n,
    CallsIn Fence.wide n Try.prog g (#[.func (.yield l) #[] #[]] ++ lb) W fun e W' => (∃ v, e = .returned v) ∧ ∃ O', J O' xs W' ∧ Turn O W O' W'
/-- How a round's body is left. -/
def Goes (I : (Nat → Prop) → List Int → World → Prop) (O : Nat → Prop) (xs : List Int) (W : World) : Exit → Act → World → Prop
  | .normal, _, W' => ∃ O', I O' xs W' ∧ Turn O W O' W'
  | _, _, _ => False
theorem Inv.put {B : Nat} {J : (Nat → Prop) → List Int → World → Prop} (h : Inv B J) {O : Nat → Prop} {s : List Int} {W : World} {l : Nat} {o : Obj} (o' : Obj) (hs : J O s W) (hB : B ≤ l) (hl : W.heap[l]? = some o) (ho : o.isCells = false) : J O s (W.putObj l o') :=
  h.1 O s W _ (some l) hs (grownBy_putObj' W l o') (fun r e => by cases e; exact ⟨hB, o, hl, ho⟩)
theorem Inv.alloc {B : Nat} {J : (Nat → Prop) → List Int → World → Prop} (h : Inv B J) {O : Nat → Prop} {s : List Int} {W : World} (o : Obj) (hs : J O s W) : J O s (W.alloc o) := h.1 O s W _ none hs (World.grownBy_alloc W o none) (fun r e => by cases e)
/-- A block that is put and put back. -/
theorem turn_put {O O' : Nat → Prop} {W W3 : World} {l : Nat} {o o1 o2 : Obj} (hl : W.heap[l]? = some o) (h : Turn O (W.putObj l o1) O' W3) (h3 : l < W3.heap.size) (he : o2 = o) : Turn O W O' (W3.putObj l o2) := by
  subst he
  obtain ⟨t1, t2, t3, t4, t5, t6⟩ := h
  refine ⟨t1, t2, t3, by simpa using t4, fun b hb hO => ?_, fun b hb => by simpa using t6 b hb⟩
  by_cases e : b = l
  · subst e
    rw [World.putObj_heap_same h3, hl]
  · rw [World.putObj_heap_other e, t5 b (by simpa using hb) hO, World.putObj_heap_other e]

/-- THE STATEMENT. -/
theorem loop_tells {g : Operand} {ps : Array Tmp} {assign body : Code} {Q : Exit → Act → World → Prop} {a : Act} {w : World} {n gf : Nat} {lb : Array Value} (hg : a.eval g = .func (.func gf) #[] lb) (eg : ∀ args w, (callFunc gf args).run Try.prog w = .ok (.enter gf args) w)
    (hps : ps.size = 1) {xs : List Int} {D O : Nat → Prop} (hD : ∀ b, D b → ¬ O b) (ht : ∀ o1 o2, Tells D gf lb xs ((w.alloc o1).alloc o2)) (I : (Nat → Prop) → List Int → World → Prop) (hI : Inv w.heap.size I) (h0 : I O [] w)
    (hround : ∀ (l m : Nat) (O : Nat → Prop) (pre : List Int) (x : Int) (W : World), I O pre W → pre ++ [x] <+: xs → assign.wpIn (Fence.wide.inRound l) m Try.prog (Exit.then (fun a' W' => W' = W ∧ ∀ Wb, I O pre Wb → body.wpIn (Fence.wide.inRound l) m Try.prog (Goes I O (pre ++ [x]) Wb) a' Wb) (fun _ _ _ => False)) { tmps := (ps.zip #[Value.int .i64 x]).foldl (fun t (p, v) => t.setIfInBounds p v) a.tmps, defers := [] } W)
    (hdone : ∀ (d : Nat) (O' : Nat → Prop) (W : World), w.heap.size ≤ d → I O' xs W → W.heap[d]? = some (.deferred (some [])) → ¬ O' d → Turn O w O' W → Q .normal { a with defers := { target := .collected d, args := #[] } :: a.defers } W) :
    (Code.rangeFunc g ps assign body).wpIn Fence.wide n Try.prog Q a w := by
  refine wpIn_rangeFunc ?_
  intro fn hfn
  obtain ⟨rec, hrec⟩ : ∃ rec : LoopState → Option Code → Loop, rec = fun st pe => { state := st, pending := pe, fn, tmps := a.tmps, params := ps, assign, body, defers := w.heap.size } := ⟨_, rfl⟩
  obtain ⟨V, hV⟩ : ∃ V, (w.alloc (.deferred (some []))).alloc (.loop (rec .ready none)) = V := ⟨_, rfl⟩
  have zV : V.heap.size = w.heap.size + 1 + 1 := by rw [← hV]; simp
  have lV : V.heap[w.heap.size + 1]? = some (.loop (rec .ready none)) := by rw [← hV]; exact heap_second _ _ _
  have kV : V.heap[w.heap.size]? = some (.deferred (some [])) := by rw [← hV]; exact (heap_old _ _ (by simp)).trans (heap_new _ _)
  have iV : I O [] V := by rw [← hV]; exact hI.alloc _ (hI.alloc _ h0)
  have tV : Turn O w O V := by rw [← hV]; exact (Turn.alloc _ _ _).trans (Turn.alloc _ _ _)
  have hlt := hI.2 _ _ _ h0
  refine ⟨w.heap.size + 1, [{ target := .collected w.heap.size, args := #[] }], V, { target := .fn (.func gf) lb, args := #[.func (.yield (w.heap.size + 1)) #[] #[]] }, V, gf, #[.func (.yield (w.heap.size + 1)) #[] #[]] ++ lb, V, ?_, ?_, fun _ _ => trivial, ?_, (fun h => by cases h), ?_⟩
  · rw [← hV, hrec]; exact run_enterLoop_outer _ _ _ _ _
  · simp only [resolve, hg]
    simp [go_sem]
  · simp [invoke, go_sem, eg]
  obtain ⟨J, hJ⟩ : ∃ J : (Nat → Prop) → List Int → World → Prop, J = fun O s W => I O s W ∧ W.heap[w.heap.size + 1]? = some (.loop (rec .ready none)) ∧ W.heap[w.heap.size]? = some (.deferred (some [])) ∧ ¬ O (w.heap.size + 1) ∧ ¬ O w.heap.size := ⟨_, rfl⟩
  have hInv : Inv V.heap.size J := by
    rw [hJ]
    refine ⟨fun P s A A' row hs hgr hr => ?_, fun P s A hs => hI.2 _ _ _ hs.1⟩
    obtain ⟨s1, s2, s3, s4, s5⟩ := hs
    have keep : ∀ b o, b < V.heap.size → A.heap[b]? = some o → A'.heap[b]? = some o := fun b o hb ho => (hgr.block b (Array.getElem?_eq_some_iff.1 ho).1 (fun e => by have := (hr b e.symm).1; omega)).trans ho
    exact ⟨hI.1 _ _ _ _ _ s1 hgr (fun r e => ⟨by have := (hr r e).1; omega, (hr r e).2⟩), keep _ _ (by omega) s2, keep _ _ (by omega) s3, s4, s5⟩
  have hR : Rounds (w.heap.size + 1) xs J := by
    rw [hJ]
    rintro m P pre x W ⟨s1, s2, s3, s4, s5⟩ hpre
    have hy := run_yield (P := Try.prog) (args := #[Value.int .i64 x]) s2 (by rw [hrec]; exact hps.symm)
    rw [hrec] at hy
    have hlt2 := (Array.getElem?_eq_some_iff.1 s2).1
    refine ⟨fn, _, assign, body, hy, roundIn_of_wpIn hfn (wpIn_mono (hround _ m P pre x W s1 hpre) ?_)⟩
    intro e0 a0 W0 h0'
    cases e0 with
    | normal => ?_
    | _ => exact h0'.elim
    obtain ⟨e1, hb'⟩ := h0'
    rw [e1]
    refine ⟨_, run_beginRound s2 (by rw [hrec]), ?_⟩
    refine wpIn_mono (hb' _ (hI.put _ s1 (by omega) s2 rfl)) ?_
    intro e a3 W3 hp
    cases e with
    | normal =>
      obtain ⟨O', i3, t3⟩ := hp
      have z3 := t3.2.2.2.1
      rw [World.putObj_size] at z3
      have l3 : W3.heap[w.heap.size + 1]? = some (.loop { rec .ready none with state := .busy }) := (t3.2.2.2.2.1 _ (by simpa using hlt2) s4).trans (World.putObj_heap_same hlt2)
      have k3 : W3.heap[w.heap.size]? = some (.deferred (some [])) := (t3.2.2.2.2.1 _ (by simp; omega) s5).trans ((World.putObj_heap_other (by omega)).trans s3)
      have n1 : ∀ b, b < W.heap.size → ¬ P b → ¬ O' b := fun b hb hn h => by
        rcases t3.2.2.2.2.2 b h with h | h
        · exact hn h
        · rw [World.putObj_size] at h; omega
      refine ⟨_, _, run_endRound none l3, rfl, O', ⟨hI.put _ i3 (by omega) l3 rfl, ?_, (World.putObj_heap_other (by omega)).trans k3, n1 _ hlt2 s4, n1 _ (by omega) s5⟩, turn_put s2 t3 (Array.getElem?_eq_some_iff.1 l3).1 (by rw [hrec]; rfl)⟩
      rw [World.putObj_heap_same (Array.getElem?_eq_some_iff.1 l3).1, hrec]; rfl
    | _ => exact hp.elim
  have h0J : J O [] V := by rw [hJ]; exact ⟨iV, lV, kV, fun h => by have := hlt _ h; omega, fun h => by have := hlt _ h; omega⟩
  have htV : Tells D gf lb xs V := by rw [← hV]; exact ht _ _
  refine (htV (w.heap.size + 1) J O hD hInv hR h0J (n - 1)).mono ?_
  rintro e W2 ⟨⟨v, rfl⟩, O', hJ2, t2⟩
  rw [hJ] at hJ2
  obtain ⟨s1, s2, s3, s4, s5⟩ := hJ2
  have t4 := tV.trans t2
  refine ⟨none, _, by have := run_endLoop (P := Try.prog) s2 (by rw [hrec]; simp); rw [hrec] at this; exact this, hdone _ O' _ (Nat.le_refl _) (hI.put _ s1 (by omega) s2 rfl) ((World.putObj_heap_other (by omega)).trans s3) s5 ?_⟩
  refine ⟨t4.1, t4.2.1, t4.2.2.1, by simpa using t4.2.2.2.1, fun b hb hn => (World.putObj_heap_other (by omega)).trans (t4.2.2.2.2.1 b hb hn), t4.2.2.2.2.2⟩
end Go.Proofs.Ytcnhfoppfihhiaa
