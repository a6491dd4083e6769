/- The contract of the builder's level: for each kid in order, and then for the level itself, its node is put. No condition but that all lies in memory, and no level has more than two kids. -/
import Derived.Test.YtmbopdlmkbbbiaaAbuild
import Derived.Test.YtmbopdlmkbbbiaaAspec2
import Derived.Test.YtmbopdlmkbbbiaaRow
namespace Go.Proofs.Ytmbopdlmkbbbiaa
open Go.RowKit

theorem BAt.other {w : World} {lo B r : Nat} {x : Option Addr} {c : Nat} {ns : List Nd} (h : BAt w lo B r x c ns) {q : Nat} {cs : Array Value} {t : TypeId} (hq : w.heap[q]? = some (.cells cs t (0, 0))) (h1 : t ≠ 41) (h2 : t ≠ 69) : q ≠ B ∧ q ≠ r ∧ some q ≠ rowOf x := by
  refine ⟨?_, ?_, ?_⟩
  · rintro rfl
    have := h.b.symm.trans hq
    simp at this
    exact h2 this.2.symm
  · rintro rfl
    have := h.m.symm.trans hq
    simp [nTab] at this
  · intro e
    rcases h.own.2 with ⟨hv, _⟩ | ⟨g, cap, cur, hv, _, hh, _⟩
    · injection hv with hv _ _; subst hv; cases e
    · injection hv with hv _ _; subst hv
      injection e with e
      subst e
      have := hq.symm.trans hh
      simp at this
      exact h1 this.2
theorem BAt.setOther {w : World} {lo B r : Nat} {x : Option Addr} {c : Nat} {ns : List Nd} (h : BAt w lo B r x c ns) {q : Nat} {cs : Array Value} {t : TypeId} (hq : w.heap[q]? = some (.cells cs t (0, 0))) (h1 : t ≠ 41) (h2 : t ≠ 69) (i : Nat) (u : Value) : BAt (w.setCell ⟨q, i, none⟩ u) lo B r x c ns := by
  obtain ⟨g1, g2, g3⟩ := h.other hq h1 h2
  exact ⟨(Below.heap_setCell _ _ _ _ (Ne.symm g1)).trans h.b, (Below.heap_setCell _ _ _ _ (Ne.symm g2)).trans h.m, h.own.kept (Only.set w q i u) (.inr (by rw [rowOf_eq]; exact Ne.symm g3)), h.lB, h.lr⟩
theorem Ch.setNew {w w' : World} {B r : Nat} {x : Option Addr} (h : Ch w w' B r x) {q : Nat} (hq : w.heap.size ≤ q) (i : Nat) (u : Value) : Ch w (w'.setCell ⟨q, i, none⟩ u) B r x :=
  ⟨h.os, h.tape, h.output, by simpa using h.size, fun k h0 h1 h2 h3 => (Below.heap_setCell _ _ _ _ (Nat.ne_of_lt (Nat.lt_of_lt_of_le h0 hq))).trans (h.block k h0 h1 h2 h3)⟩
/-- What stands behind the first levels of a forest. -/
theorem FoIn.skip {w : World} {P : Nat → Prop} {g : Fo} : ∀ (f : Fo) {b o : Nat}, FoIn w P (f.app g) b o → FoIn w P g b (o + f.len * 3)
  | .nil, b, o, h => by simpa [Fo.app, Fo.len] using h
  | .cons k n ks r, b, o, h => by
    have := FoIn.skip r h.first.2.2.2
    rwa [show o + 3 + r.len * 3 = o + (Fo.cons k n ks r).len * 3 by simp only [Fo.len]; omega] at this
/-- The places of the kids, so far. -/
def pl (p : List Nat) (i : Nat) : Int := (p.getD i 0 : Nat)
def KsAt (w : World) (K : Nat) (p : List Nat) : Prop := w.heap[K]? = some (.cells #[.int .i64 (pl p 0), .int .i64 (pl p 1)] 97 (0, 0))
theorem KsAt.set0 {w : World} {K : Nat} (h : KsAt w K []) (q : Nat) : KsAt (w.setCell ⟨K, 0, none⟩ (.int .i64 q)) K [q] := by
  unfold KsAt at *
  simp only [World.setCell, Array.getElem?_modify, if_true, h]; rfl
theorem KsAt.set1 {w : World} {K : Nat} {p : Nat} (h : KsAt w K [p]) (q : Nat) : KsAt (w.setCell ⟨K, 1, none⟩ (.int .i64 q)) K [p, q] := by
  unfold KsAt at *
  simp only [World.setCell, Array.getElem?_modify, if_true, h]; rfl
/-- What stands in memory while the kids are gone through. -/
def LvR (w : World) (lo B r : Nat) (x : Option Addr) (ns : List Nd) (k n : Int) (F : Fo) (xa : Option Addr) (ca : Nat) (done rr : Fo) (wr : World) : Prop :=
  done.app rr = F ∧ (∃ x' c', BAt wr lo B r x' c' (putAll done ns).1 ∧ Nr w x x') ∧ Ch w wr B r x ∧ wr.heap[w.heap.size]? = some (.cells #[.int .i64 k, .int .i64 n, .slice xa F.len ca] 30 (0, 0)) ∧ KsAt wr (w.heap.size + 1) (putAll done ns).2

set_option maxRecDepth 100000 in
set_option maxHeartbeats 4000000 in
theorem blevel_any (lo B r : Nat) (s : Nat) : ∀ (F : Fo), F.size < s → ∀ (k n : Int) (xa : Option Addr) (ca L : Nat) (x : Option Addr) (c : Nat) (ns : List Nd) (w : World), SlIn w (· < L) F xa ca → L ≤ lo → lo ≤ w.heap.size → BAt w lo B r x c ns → F.len ≤ 2 → W2 F → ns.length + F.size + 1 ≤ 100000 →
    Calls Try.prog 34 #[.pointer (some ⟨B, 0, none⟩), .agg #[.int .i64 k, .int .i64 n, .slice xa F.len ca]] w (BnPost lo B r x (putL k n F ns) w) := by
  induction s with
  | zero => intro f hs; omega
  | succ s ih =>
    intro F hs k n xa ca L x c ns w hsl hL hlo hat hF2 hw2 hsz
    have IH := Lib.hid ih
    clear ih
    have hlen := hsl.len
    have HW2 := Lib.hid hw2
    have hb0 : Below w.heap.size w ((w.alloc (.cells #[.int .i64 k, .int .i64 n, .slice xa F.len ca] 30)).alloc (.cells #[.int .i64 0, .int .i64 0] 97)) := ((Below.refl _ _).alloc (Nat.le_refl _) _).alloc (by simp) _
    have HS : Hid (LvR w lo B r x ns k n F xa ca .nil F ((w.alloc (.cells #[.int .i64 k, .int .i64 n, .slice xa F.len ca] 30)).alloc (.cells #[.int .i64 0, .int .i64 0] 97))) := Lib.hid ⟨rfl, ⟨x, c, hat.keep hb0, Nr.refl _ _⟩, Ch.below _ _ _ hb0, (heap_old _ _ (by simp)).trans (heap_new _ _), heap_second _ _ _⟩
    have HLO : Hid (∀ q, q < L → q ≠ B ∧ q ≠ r ∧ some q ≠ rowOf x) := Lib.hid (fun q hq => ⟨by have := hat.lB; omega, by have := hat.lr; omega, fun e => by
      have := (hat.own.lt q (by rw [rowOf_eq]; exact e.symm)).1
      omega⟩)
    clear hw2 hat hb0
    go_enter Try.func34, Try.ntmps34
    go_wp2_with fail
    go_loopw [11] (fun i wr => ∃ (j : Nat) (done rr : Fo), i = .int .i64 j ∧ Hid (done.len = j) ∧ Hid (j + rr.len = F.len) ∧ Hid (LvR w lo B r x ns k n F xa ca done rr wr)) (fun i _ => F.len - (intOf i).toNat)
    case atStart => exact ⟨0, .nil, F, rfl, Lib.hid rfl, Lib.hid (by omega), HS⟩
    case round =>
      obtain ⟨j, done, rr, rfl, hdn, hj, hR⟩ := hrel
      cases rr with
      | nil =>
        have hlt : ¬ (j : Int) < (F.len : Int) := by have := hj.out; simp [Fo.len] at this; omega
        have d' : decide ((j : Int) < (F.len : Int)) = false := by simpa using hlt
        obtain ⟨r1, ⟨x', c', r2, r3⟩, r4, r5, r6⟩ := hR.out
        rw [foApp_nil] at r1
        subst r1
        have b0 := cell_at r5 0
        have b1 := cell_at r5 1
        have b2 := cell_at r6 0
        have b3 := cell_at r6 1
        simp at b0 b1 b2 b3
        have hpl := (putAll_len done ns).2.1
        have HC := Lib.hid (bnode_any lo B r x' c' (putAll done ns).1 ⟨k, n, pl (putAll done ns).2 0, pl (putAll done ns).2 1⟩ wr r2 (Nat.le_trans hlo r4.size) (by omega))
        have HE : Hid (∀ (e : Ending) (w2 : World), BnPost lo B r x' (addN (putAll done ns).1 ⟨k, n, pl (putAll done ns).2 0, pl (putAll done ns).2 1⟩) wr e w2 → BnPost lo B r x (putL k n done ns) w e w2) := Lib.hid (by
          rintro e w2 ⟨x2, c2, q1, q2, q3, q4⟩
          exact ⟨x2, c2, q1, q2, r4.trans r3 q3, r3.trans r4.size q4⟩)
        generalize pl (putAll done ns).2 0 = p0 at b2 HC HE
        generalize pl (putAll done ns).2 1 = p1 at b3 HC HE
        clear r2 r3 r4 r5 r6 hpl hR HLO IH HW2
        go_wp2_with fail
        refine HC.out.mono ?_
        intro e w2 h2
        have HE2 := Lib.hid (HE.out e w2 h2)
        obtain ⟨x2, c2, rfl, _⟩ := h2
        go_wp2_with fail
        go_ret
        exact HE2.out
      | cons k' n' ks r' =>
        have hlt : j < F.len := by have := hj.out; simp [Fo.len] at this; omega
        have hlt' : (j : Int) < (F.len : Int) := by omega
        have hj2 : j = 0 ∨ j = 1 := by omega
        obtain ⟨b, o, rfl, hbL, hf0⟩ := hsl.some (by omega)
        obtain ⟨r1, ⟨x', c', r2, r3⟩, r4, r5, r6⟩ := hR.out
        have hFoR : FoIn w (· < L) (.cons k' n' ks r') b (o + j * 3) := by
          have := hdn.out
          have h1 := hf0
          rw [← r1] at h1
          rw [← this]
          exact FoIn.skip _ h1
        have hkeep : ∀ q, q < L → wr.heap[q]? = w.heap[q]? := fun q hq => by
          obtain ⟨h1, h2, h3⟩ := HLO.out q hq
          exact r4.block q (by omega) h1 h2 h3
        obtain ⟨e0, e1, ⟨a', cap', e2, hsl'⟩, _⟩ := (FoIn.keep hkeep _ _ _ hbL hFoR).first
        have hw2 := HW2.out
        rw [← r1] at hw2
        obtain ⟨hk2, hwk, _⟩ := (W2.app hw2).2
        have hz := congrArg Fo.size r1
        rw [Fo.app_size] at hz
        simp only [Fo.size] at hz
        have hpz := (putAll_len done ns).2.1
        have hbk : Below wr.heap.size wr (wr.alloc (.cells #[.int .i64 k', .int .i64 n', .slice a' ks.len cap'] 30)) := (Below.refl _ _).alloc (Nat.le_refl _) _
        have HC := Lib.hid (IH.out ks (by omega) k' n' a' cap' L x' c' (putAll done ns).1 (wr.alloc (.cells #[.int .i64 k', .int .i64 n', .slice a' ks.len cap'] 30)) (by exact hsl'.below (hbk.mono (by have := r4.size; omega))) hL (by have := r4.size; simp; omega) (r2.keep hbk) hk2 hwk (by omega))
        have HN : Hid (∀ (p : Nat) (w2 : World), p = (putL k' n' ks (putAll done ns).1).2 → BnPost lo B r x' (putL k' n' ks (putAll done ns).1) (wr.alloc (.cells #[.int .i64 k', .int .i64 n', .slice a' ks.len cap'] 30)) (.returned (.int .i64 p)) w2 →
            w2.heap[w.heap.size]? = some (.cells #[.int .i64 k, .int .i64 n, .slice (some ⟨b, o, none⟩) F.len ca] 30 (0, 0)) ∧ KsAt w2 (w.heap.size + 1) (putAll done ns).2 ∧
            ∀ i, KsAt (w2.setCell ⟨w.heap.size + 1, i, none⟩ (.int .i64 p)) (w.heap.size + 1) ((putAll done ns).2 ++ [p]) → LvR w lo B r x ns k n F (some ⟨b, o, none⟩) ca (done.app (.cons k' n' ks .nil)) r' (w2.setCell ⟨w.heap.size + 1, i, none⟩ (.int .i64 p))) := Lib.hid (by
          rintro p w2 hp ⟨x2, c2, q1, q2, q3, q4⟩
          have hs1 : w.heap.size < wr.heap.size := lt_of_block r5
          have hs2 : w.heap.size + 1 < wr.heap.size := lt_of_block r6
          obtain ⟨u1, u2, u3⟩ := r2.other r5 (by decide) (by decide)
          obtain ⟨v1, v2, v3⟩ := r2.other r6 (by decide) (by decide)
          have g5 := ((q3.block w.heap.size (by simp; omega) u1 u2 u3).trans (heap_old _ _ hs1)).trans r5
          have g6 : KsAt w2 (w.heap.size + 1) (putAll done ns).2 := ((q3.block (w.heap.size + 1) (by simp; omega) v1 v2 v3).trans (heap_old _ _ hs2)).trans r6
          refine ⟨g5, g6, fun i hk => ⟨by rw [foApp_assoc]; exact r1, ⟨x2, c2, ?_, ?_⟩, ?_, (Below.heap_setCell _ _ _ _ (Nat.ne_of_lt (Nat.lt_succ_self _))).trans g5, ?_⟩⟩
          · rw [putAll_one]
            exact q2.setOther g6 (by decide) (by decide) i _
          · exact r3.trans r4.size (Nr.trans (Nr.refl _ _) hbk.size q4)
          · exact Ch.setNew (r4.trans r3 ((Ch.below B r x' hbk).trans (Nr.refl _ _) q3)) (Nat.le_succ _) i _
          · rw [putAll_one, ← hp]
            exact hk)
        have HPL : Hid ((putAll done ns).2.length = j) := Lib.hid (by rw [(putAll_len done ns).2.2]; exact hdn.out)
        generalize (putL k' n' ks (putAll done ns).1) = P at HC HN
        generalize (putAll done ns).2 = ps at HN HPL
        clear r1 r2 r3 r4 r5 r6 hkeep hsl' hf0 hFoR hw2 hk2 hwk hz hpz hbk
        rcases hj2 with rfl | rfl
        · simp only [Nat.zero_mul, Nat.add_zero] at e0 e1 e2
          obtain rfl : ps = [] := List.eq_nil_of_length_eq_zero HPL.out
          go_wp2_with fail
          refine HC.out.mono ?_
          intro e w2 h2
          obtain ⟨x2, c2, rfl, _⟩ := id h2
          obtain ⟨t1, t2, t3⟩ := HN.out _ w2 rfl h2
          have b2 := cell_at t2 0
          have bz := free_of t2
          simp at b2
          have HX := Lib.hid (t3 0 (t2.set0 _))
          clear h2 t1 t2 t3
          go_wp2_with fail
          go_roundw
          case rel => exact ⟨1, done.app (.cons k' n' ks .nil), r', rfl, Lib.hid (by rw [Fo.app_len, hdn.out]; rfl), Lib.hid (by have := hj.out; simp [Fo.len] at this; omega), HX⟩
          case measure => simp [intOf]; omega
        · simp only [Nat.one_mul] at e0 e1 e2
          obtain ⟨q, rfl⟩ := List.length_eq_one_iff.1 HPL.out
          go_wp2_with fail
          refine HC.out.mono ?_
          intro e w2 h2
          obtain ⟨x2, c2, rfl, _⟩ := id h2
          obtain ⟨t1, t2, t3⟩ := HN.out _ w2 rfl h2
          have b2 := cell_at t2 1
          have bz := free_of t2
          simp at b2
          have HX := Lib.hid (t3 1 (t2.set1 _))
          clear h2 t1 t2 t3
          go_wp2_with fail
          go_roundw
          case rel => exact ⟨2, done.app (.cons k' n' ks .nil), r', rfl, Lib.hid (by rw [Fo.app_len, hdn.out]; rfl), Lib.hid (by have := hj.out; simp [Fo.len] at this; omega), HX⟩
          case measure => simp [intOf]; omega
end Go.Proofs.Ytmbopdlmkbbbiaa
