/- All levels of a term, from the left on, as the document's own answer lays them in a row. No condition but that the term lies in memory, and that there are at most fifty thousand levels. -/
import Derived.Test.YtcnhfoppfihhiaaQsub
import Derived.IntWalk
namespace Go.Proofs.Ytcnhfoppfihhiaa
open Go.RowKit

/-- All levels, from the left on. -/
def lvF : Ft → Fo
  | .nil => .nil
  | .cons _ _ ls ks r => (ls.app (lvF ks)).app (lvF r)
def Tm.lv (T : Tm) : Fo := T.ls.app (lvF T.ks)
theorem lvF_app : ∀ f g : Ft, lvF (f.app g) = (lvF f).app (lvF g)
  | .nil, _ => rfl
  | .cons k n ls ks r, g => by
    show (ls.app (lvF ks)).app (lvF (r.app g)) = ((ls.app (lvF ks)).app (lvF r)).app (lvF g)
    rw [lvF_app r g, ← foAss3]
theorem RepP.app {w : World} {P : Nat → Prop} {g : Fo} {ys : List Value} (hg : RepP w P g ys) : ∀ {f : Fo} {xs : List Value}, RepP w P f xs → RepP w P (f.app g) (xs ++ ys)
  | .nil, _, h => by
    have e : _ = [] := h
    subst e
    exact hg
  | .cons k n ks r, _, ⟨a, cap, xs', e, hs, hr⟩ => by
    subst e
    exact ⟨a, cap, xs' ++ ys, rfl, hs, RepP.app hg hr⟩
theorem RepP.one {w : World} {P : Nat → Prop} : ∀ {f : Fo} {xs : List Value}, RepP w P f xs → ∀ u ∈ xs, u.oneCell' = true
  | .nil, _, h, u, hu => by
    have e : _ = [] := h
    subst e
    cases hu
  | .cons k n ks r, _, ⟨a, cap, xs', e, hs, hr⟩, u, hu => by
    subst e
    simp only [List.mem_cons] at hu
    rcases hu with rfl | rfl | rfl | hu
    · rfl
    · rfl
    · rfl
    · exact RepP.one hr u hu
theorem FoIn.rep {w : World} {P : Nat → Prop} : ∀ {f : Fo} {b o : Nat}, FoIn w P f b o → ∃ xs, RepP w P f xs ∧ ∀ j u, xs[j]? = some u → w.cell? ⟨b, o + j, none⟩ = some u
  | .nil, _, _, _ => ⟨[], rfl, fun j u h => by simp at h⟩
  | .cons k n ks r, b, o, h => by
    obtain ⟨h0, h1, ⟨a, cap, h2, hs⟩, hr⟩ := h.first
    obtain ⟨xs, hx, hc⟩ := FoIn.rep hr
    refine ⟨.int .i64 k :: .int .i64 n :: .slice a ks.len cap :: xs, ⟨a, cap, xs, rfl, hs, hx⟩, fun j u hj => ?_⟩
    match j, hj with
    | 0, hj => cases hj; exact h0
    | 1, hj => cases hj; exact h1
    | 2, hj => cases hj; exact h2
    | j + 3, hj =>
      rw [show o + (j + 3) = o + 3 + j by omega]
      exact hc j u (by simpa using hj)
/-- THE APPEND of the levels of a slice behind the row. -/
theorem KsMix.appendIn {B lo : Nat} {W : World} {v : Value} {G F : Fo} {x : Option Addr} {c : Nat} (h : KsMix B lo W v G) (hs : SlIn W (Mx B lo W v) F x c) (ty : TypeId) (hsz : G.len + F.len ≤ 100000) (hW : lo ≤ W.heap.size) :
    ∃ v' w3, (Builtin.append_ #[26, 26] ty #[v, .slice x F.len c]).run Try.prog W = .ok v' w3 ∧ KsMix B lo w3 v' (G.app F) ∧ (∀ b, b < W.heap.size → some b ≠ v.ownBlock → w3.heap[b]? = W.heap[b]?) ∧ W.heap.size ≤ w3.heap.size ∧ w3.os = W.os ∧ w3.tape = W.tape ∧ w3.output = W.output := by
  obtain ⟨xs, h1, h2⟩ := h
  obtain ⟨i0, hi, hz0, hz1, hz2⟩ := info_parts infoLevel
  cases x with
  | none =>
    have hc : c = 0 := hs.2.2.1 rfl
    have hl : F.len = 0 := by have := hs.1; omega
    have hk := Fo.len_zero hl
    subst hk hc
    refine ⟨v, W, ?_, ⟨xs, by rw [foNil3]; exact h1, by rw [foNil3]; exact h2⟩, fun _ _ _ => rfl, Nat.le_refl _, rfl, rfl, rfl⟩
    rcases h1.2 with ⟨rfl, hn⟩ | ⟨g, cap, cur, rfl, _, _, hle, _⟩
    · simp [Builtin.append_, run_underlying Try.underlying26, sizeOf, typeInfo, hi, Builtin.lenOf, Builtin.firstCells, Fo.len]
    · simp [Builtin.append_, run_underlying Try.underlying26, sizeOf, typeInfo, hi, Builtin.lenOf, Builtin.firstCells, hle, storeCells, Fo.len]
  | some a =>
    obtain ⟨ns, hns, hcs⟩ : ∃ ns, RepP W (Mx B lo W v) F ns ∧ ∀ j u, ns[j]? = some u → W.cell? (a.add j) = some u := by
      rcases Nat.eq_zero_or_pos F.len with h0 | h0
      · have hk := Fo.len_zero h0
        subst hk
        exact ⟨[], rfl, fun j u hj => by simp at hj⟩
      · obtain ⟨b, o, e, _, hf⟩ := hs.some h0
        cases e
        obtain ⟨ns, q1, q2⟩ := hf.rep
        refine ⟨ns, q1, fun j u hj => ?_⟩
        have e : (⟨b, o, none⟩ : Addr).add j = ⟨b, o + j, none⟩ := by unfold Addr.add; split <;> simp_all
        rw [e]
        exact q2 j u hj
    obtain ⟨v', w3, hrun, a1, a2, _, a3⟩ := run_append_own_at (P := Try.prog) W lo 26 ty 38 i0 _ 3 40 Try.underlying26 hi hz0 hz1 hz2 rfl (by omega) v G.len xs h1 a F.len c ns (by rw [hns.length]) hcs hns.one (by unfold maxLen; omega) (by omega) hW
    have same : ∀ b, b < W.heap.size → some b ≠ v.ownBlock → w3.heap[b]? = W.heap[b]? := fun b hb hn => a2.block b hb hn
    have hQ : ∀ b, Mx B lo W v b → Mx B lo w3 v' b := fun b hb => ⟨hb.1, Nat.lt_of_lt_of_le hb.2.1 a2.size, by
      rcases a3 with a3 | a3
      · rw [a3]; exact hb.2.2
      · rw [a3]; intro e; injection e with e; have := hb.2.1; omega⟩
    refine ⟨v', w3, hrun, ⟨xs ++ ns, by rw [Fo.app_len]; exact a1, ?_⟩, same, a2.size, a2.os, a2.tape, a2.output⟩
    exact RepP.app (hns.keep (fun b hb => same b hb.2.1 hb.2.2) hQ) (h2.keep (fun b hb => same b hb.2.1 hb.2.2) hQ)

/-- What levels answers: a row. -/
def LvPost (B : Nat) (F : Fo) (w : World) (e : Ending) (w' : World) : Prop :=
  ∃ (x : Option Addr) (c : Nat), e = .returned (.slice x F.len c) ∧ SlIn w' (fun b => (b < B ∨ w.heap.size ≤ b) ∧ b < w'.heap.size) F x c ∧ Below w.heap.size w w'
/-- What stands in memory between two rounds. -/
def LvS (w : World) (ob : Obj) (B : Nat) (G : Fo) (v : Value) (wr : World) : Prop :=
  wr.heap[w.heap.size]? = some ob ∧ KsMix B (w.heap.size + 1) wr v G ∧ w.heap.size + 1 ≤ wr.heap.size ∧ B ≤ w.heap.size ∧ Below w.heap.size w wr
theorem LvS.next {w : World} {ob : Obj} {B : Nat} {G F : Fo} {v : Value} {wr w2 : World} {x : Option Addr} {c : Nat} (h : LvS w ob B G v wr) (hb : Below wr.heap.size wr w2) (hs : SlIn w2 (fun b => (b < B ∨ wr.heap.size ≤ b) ∧ b < w2.heap.size) F x c) (hsz : G.len + F.len ≤ 100000) :
    ∃ v' w3, (Builtin.append_ #[26, 26] 26 #[v, .slice x F.len c]).run Try.prog w2 = .ok v' w3 ∧ LvS w ob B (G.app F) v' w3 := by
  obtain ⟨h0, h1, h2, h3, h4⟩ := h
  have hz := hb.size
  obtain ⟨v', w3, hrun, k3, same, z3, o1, o2, o3⟩ := (h1.later hb).appendIn (h1.fresh (by omega) (by omega) hs) 26 hsz (by omega)
  have nv : ∀ b, b ≤ w.heap.size → some b ≠ v.ownBlock := fun b hb' e => by have := (h1.lt b e.symm).1; omega
  refine ⟨v', w3, hrun, ?_, k3, by omega, h3, ?_⟩
  · exact (same _ (by omega) (nv _ (Nat.le_refl _))).trans ((hb.block _ (by omega)).trans h0)
  · exact ⟨(o1.trans hb.os).trans h4.os, (o2.trans hb.tape).trans h4.tape, (o3.trans hb.output).trans h4.output, by have := h4.size; omega, fun q hq => ((same q (by omega) (nv q (by omega))).trans (hb.block q (by omega))).trans (h4.block q hq)⟩

set_option maxRecDepth 100000 in
set_option maxHeartbeats 4000000 in
theorem r15levels_any (s : Nat) : ∀ (f : Ft), f.size < s → ∀ (k n : Int) (ls : Fo) (la ka : Option Addr) (lc kc B : Nat) (w : World), (ls.app (lvF f)).len ≤ 50000 → SlIn w (· < B) ls la lc → TlIn w (· < B) f ka kc → B ≤ w.heap.size →
    Calls Try.prog 36 #[.agg #[.int .i64 k, .int .i64 n, .slice la ls.len lc, .slice ka f.len kc]] w (LvPost B (ls.app (lvF f)) w) := by
  induction s with
  | zero => intro f hs; omega
  | succ s ih =>
    intro f hs k n ls la ka lc kc B w hlv hls hsl hB
    have IH := Lib.hid ih
    clear ih
    have hlen := hsl.len
    have hlen2 := hls.len
    have HSL := Lib.hid hsl
    have HLV := Lib.hid hlv
    have hb0 : Below w.heap.size w (w.alloc (.cells #[.int .i64 k, .int .i64 n, .slice la ls.len lc, .slice ka f.len kc] 29)) := (Below.refl _ _).alloc (Nat.le_refl _) _
    have h0 : LvS w (.cells #[.int .i64 k, .int .i64 n, .slice la ls.len lc, .slice ka f.len kc] 29 (0, 0)) B .nil (.slice none 0 0) (w.alloc (.cells #[.int .i64 k, .int .i64 n, .slice la ls.len lc, .slice ka f.len kc] 29)) :=
      ⟨heap_new _ _, KsMix.nil _ _ _, by simp, hB, hb0⟩
    obtain ⟨v1, w1, hrun, h1⟩ := h0.next (Below.refl _ _) ((hls.below (hb0.mono hB)).weak (fun b hb => ⟨.inl hb, by simp; omega⟩)) (by show 0 + ls.len ≤ _; rw [Fo.app_len] at hlv; omega)
    have HRUN := Lib.hid hrun
    have H1 := Lib.hid h1
    clear hsl hls hlv h0 hrun h1 hb0
    go_enter Try.func36, Try.ntmps36
    go_wp2_with (at_builtin; refine wpList_append_run (by rfl) _ _ _ (by rfl) (by rfl) (by rfl) HRUN.out ?_)
    go_loopw [3, 4] (fun ov jv wr => ∃ (j : Nat) (H rest : Ft) (v : Value), v = ov ∧ jv = .int .i64 j ∧ Hid (f = H.app rest) ∧ Hid (H.len = j) ∧ Hid (LvS w (.cells #[.int .i64 k, .int .i64 n, .slice la ls.len lc, .slice ka f.len kc] 29 (0, 0)) B (ls.app (lvF H)) v wr)) (fun _ jv _ => f.len - (intOf jv).toNat)
    case atStart => exact ⟨0, .nil, f, _, rfl, rfl, Lib.hid rfl, Lib.hid rfl, Lib.hid (by have := H1.out; rw [show lvF .nil = .nil from rfl, foNil3]; exact this)⟩
    case round =>
      obtain ⟨j, H, rest, v, rfl, rfl, hf, hj, hR⟩ := hrel
      obtain ⟨hbox, hK, hz, _, hwr⟩ := hR.out
      obtain ⟨c0, c1, c2, c3⟩ := cells4 hbox
      have hzl : w.heap.size < wr.heap.size := by omega
      cases rest with
      | nil =>
        have hjl : ¬ (j : Int) < (f.len : Int) := by rw [hf.out, Ft.app_nil, hj.out]; omega
        have dj : decide ((j : Int) < (f.len : Int)) = false := by simpa using hjl
        obtain ⟨x, c, hv, hS⟩ := hK.slice
        have HE : Hid (LvPost B (ls.app (lvF f)) w (.returned (.slice x (ls.app (lvF H)).len c)) wr) := Lib.hid (by
          rw [show f = H by rw [hf.out, Ft.app_nil]]
          exact ⟨x, c, rfl, hS.weak (fun b hb => ⟨by omega, hb.2⟩), hwr⟩)
        subst hv
        clear hR hf hbox hK hS c0 c1 c2
        go_wp2_with fail
        go_ret
        exact HE.out
      | cons k' n' ls' ks r' =>
        have hjn : j < f.len := by rw [hf.out, Ft.app_len, hj.out]; simp [Ft.len]
        have hjl : (j : Int) < (f.len : Int) := by omega
        obtain ⟨bq, o, rfl, hbB, hf0⟩ := HSL.out.some (by omega)
        have hfa : FtIn w (· < B) (.cons k' n' ls' ks r') bq (o + j * 4) := by
          have h1 := hf0
          rw [hf.out] at h1
          rw [← hj.out]
          exact FtIn.behind H _ bq o h1
        obtain ⟨e0, e1, ⟨la', lc', e2, hls'⟩, ⟨ka', kc', e3, hsl'⟩, _⟩ := (hfa.below (hwr.mono hB) _ _ _ hbB).first
        have hfs : f.size = H.size + (ks.size + r'.size + 1) := by rw [hf.out, Ft.app_size]; rfl
        have hks : ks.size < s := by omega
        have hsum : (ls.app (lvF H)).len + (ls'.app (lvF ks)).len ≤ 50000 := by
          have h1 := HLV.out
          rw [hf.out, lvF_app] at h1
          show _ ≤ _
          rw [show lvF (.cons k' n' ls' ks r') = (ls'.app (lvF ks)).app (lvF r') from rfl, Fo.app_len, Fo.app_len, Fo.app_len] at h1
          rw [Fo.app_len]
          omega
        have hBr : B ≤ wr.heap.size := Nat.le_trans hB hwr.size
        have HC : Hid (Calls Try.prog 36 #[.agg #[.int .i64 k', .int .i64 n', .slice la' ls'.len lc', .slice ka' ks.len kc']] wr (LvPost B (ls'.app (lvF ks)) wr)) :=
          Lib.hid (IH.out ks hks k' n' ls' la' ka' lc' kc' B wr (by omega) hls' hsl' hBr)
        have HNX : Hid (∀ (w2 : World) (x : Option Addr) (c : Nat), Below wr.heap.size wr w2 → SlIn w2 (fun b => (b < B ∨ wr.heap.size ≤ b) ∧ b < w2.heap.size) (ls'.app (lvF ks)) x c → ∃ v' w3, (Builtin.append_ #[26, 26] 26 #[v, .slice x (ls'.app (lvF ks)).len c]).run Try.prog w2 = .ok v' w3 ∧ LvS w (.cells #[.int .i64 k, .int .i64 n, .slice la ls.len lc, .slice (some ⟨bq, o, none⟩) f.len kc] 29 (0, 0)) B (ls.app (lvF (H.app (.cons k' n' ls' ks .nil)))) v' w3) := Lib.hid (by
          intro w2 x c q1 q2
          obtain ⟨v', w3, r1, r2⟩ := hR.out.next q1 q2 (by omega)
          refine ⟨v', w3, r1, ?_⟩
          rw [lvF_app, show lvF (.cons k' n' ls' ks .nil) = (ls'.app (lvF ks)).app .nil from rfl, foNil3, ← foAss3]
          exact r2)
        have HSN : Hid (f = (H.app (.cons k' n' ls' ks .nil)).app r') := Lib.hid (by rw [hf.out, Ft.app_assoc]; rfl)
        have HJ := Lib.hid hj.out
        generalize ls'.app (lvF ks) = Z at HC HNX
        clear hf hR hfa hf0 hls' hsl' hfs hbox hK hsum c0 c1 c2
        go_wp2_with fail
        refine HC.out.mono ?_
        rintro e w2 ⟨x, c, rfl, t1, t2⟩
        obtain ⟨v', w3, hrun, hN⟩ := HNX.out w2 x c t2 t1
        have HRUN2 := Lib.hid hrun
        have HN := Lib.hid hN
        clear hrun hN t1 t2 HNX
        go_wp2_with (at_builtin; refine wpList_append_run (by rfl) _ _ _ (by rfl) (by rfl) (by rfl) HRUN2.out ?_)
        go_roundw
        case rel => exact ⟨j + 1, _, r', _, rfl, by go_num, HSN, Lib.hid (by rw [Ft.app_len, HJ.out]; rfl), HN⟩
        case measure => simp [intOf]; omega
end Go.Proofs.Ytcnhfoppfihhiaa
