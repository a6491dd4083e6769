/- What stands in memory while the document's own reader reads a term's Kids: how it grows, a term at a time. No condition but those that stand in each statement. -/
import Derived.Test.YthnkoamabfaioaaUrl
import Derived.Test.YthnkoamabfaioaaTmix
import Derived.Test.YthnkoamabfaioaaUlie
namespace Go.Proofs.Ythnkoamabfaioaa
open Go.RowKit

def Ts.fill (k n : Nat) (ls : Fo) : Ts → Tl
  | .no e => .no e
  | .ok F q m => .ok k n ls F q m
theorem Ts.prep_prep (G H : Ft) : ∀ r : Ts, (r.prep H).prep G = r.prep (G.app H)
  | .no _ => rfl
  | .ok .. => by simp only [Ts.prep, Ft.app_assoc]
theorem Ts.prep_nil : ∀ r : Ts, r.prep .nil = r
  | .no _ => rfl
  | .ok .. => rfl
/-- What was read: as the recursive reader says, in blocks from lo on, or the error lies in the reader's block. -/
def RtIs (R : Nat) (s : ByteArray) (r : Tl) (lo : Nat) (w' : World) (k' n' : Int) (la : Option Addr) (ln lc : Nat) (ka : Option Addr) (kn kc : Nat) : Prop :=
  match r with
  | .no er => ∃ p' m', R4At w' R s p' m' er
  | .ok k n ls ks q m => k' = k ∧ n' = n ∧ ln = ls.len ∧ kn = ks.len ∧ SlIn w' (fun b => lo ≤ b ∧ b < w'.heap.size) ls la lc ∧ TlIn w' (fun b => lo ≤ b ∧ b < w'.heap.size) ks ka kc ∧ R4At w' R s q m 0
def RtPost (R : Nat) (s : ByteArray) (r : Tl) (w : World) (e : Ending) (w' : World) : Prop :=
  ∃ (k' n' : Int) (la : Option Addr) (ln lc : Nat) (ka : Option Addr) (kn kc : Nat), e = .returned (.agg #[.int .i64 k', .int .i64 n', .slice la ln lc, .slice ka kn kc]) ∧ w.grownBy w' (some R) ∧ RtIs R s r w.heap.size w' k' n' la ln lc ka kn kc
def RtAny (R : Nat) (s : ByteArray) (d : Nat) : Prop := ∀ (b p m : Nat) (w : World), R4At w R s p m 0 → p ≤ s.size → m ≤ 600 → b + d ≤ 1000 → Calls Try.prog 32 #[.pointer (some ⟨R, 0, none⟩), .int .i64 (30 - (d : Int)), .int .i64 b] w (RtPost R s (rdT s d b p m) w)
theorem RtIs.keep {R : Nat} {s : ByteArray} {r : Tl} {lo lo' : Nat} {w w' : World} {k' n' : Int} {la : Option Addr} {ln lc : Nat} {ka : Option Addr} {kn kc : Nat} (h : RtIs R s r lo w k' n' la ln lc ka kn kc) (hz : w.heap.size ≤ w'.heap.size) (hR : w'.heap[R]? = w.heap[R]?) (hk : ∀ b, lo ≤ b → b < w.heap.size → w'.heap[b]? = w.heap[b]?) (hl : lo' ≤ lo) : RtIs R s r lo' w' k' n' la ln lc ka kn kc := by
  cases r with
  | no er =>
    obtain ⟨p', m', h1⟩ := h
    exact ⟨p', m', hR.trans h1⟩
  | ok k n ls ks q m =>
    obtain ⟨h1, h2, h3, h4, h5, h6, h7⟩ := h
    exact ⟨h1, h2, h3, h4, (h5.keep (fun b hb => hk b hb.1 hb.2)).weak (fun b hb => ⟨by omega, by omega⟩), h6.turn (fun b hb => hk b hb.1 hb.2) (fun b hb => ⟨by omega, by omega⟩), hR.trans h7⟩
/-- The result's variable, as it was made. -/
def ZtAt (w : World) (N : Nat) : Prop := w.heap[N]? = some (.cells #[.int .i64 0, .int .i64 0, .slice none 0 0, .slice none 0 0] 29 (0, 0))
/-- What lies there behind the loop. -/
def LtEnd (w : World) (R : Nat) (s : ByteArray) (TB : Nat) (r : Tl) (k n : Int) (la : Option Addr) (ln lc : Nat) (ka : Option Addr) (kn kc : Nat) (wr : World) : Prop :=
  ZtAt wr w.heap.size ∧ wr.heap[TB]? = some (.cells #[.int .i64 k, .int .i64 n, .slice la ln lc, .slice ka kn kc] 29 (0, 0)) ∧ w.grownBy wr (some R) ∧ RtIs R s r (w.heap.size + 1) wr k n la ln lc ka kn kc ∧ w.heap.size < TB
theorem rt_fin {w : World} {R : Nat} {s : ByteArray} {TB : Nat} {r : Tl} {k n : Int} {la : Option Addr} {ln lc : Nat} {ka : Option Addr} {kn kc : Nat} {wr : World} (h : LtEnd w R s TB r k n la ln lc ka kn kc wr) (hR : R < w.heap.size) :
    RtPost R s r w (.returned (.agg #[.int .i64 k, .int .i64 n, .slice la ln lc, .slice ka kn kc])) ((((wr.setCell ⟨w.heap.size, 0, none⟩ (.int .i64 k)).setCell ⟨w.heap.size, 1, none⟩ (.int .i64 n)).setCell ⟨w.heap.size, 2, none⟩ (.slice la ln lc)).setCell ⟨w.heap.size, 3, none⟩ (.slice ka kn kc)) := by
  obtain ⟨h0, h1, h2, h3, h4⟩ := h
  have u0 := set4_only (w := wr) w.heap.size (.int .i64 k) (.int .i64 n) (.slice la ln lc) (.slice ka kn kc)
  refine ⟨k, n, la, ln, lc, ka, kn, kc, rfl, Only.past h2 u0 (Nat.le_refl _), h3.keep u0.size (Only.block u0 (by have := h2.size; omega) (by omega)) (fun b h5 h6 => Only.block u0 h6 (by omega)) (Nat.le_succ _)⟩
/-- What stands while the Kids are read: no error yet, and so many of them have been read; or an error. -/
def LpT (w : World) (R : Nat) (s : ByteArray) (TB : Nat) (r : Tl) (d b : Nat) (k : Int) (c j E : Nat) (v : Value) (wr : World) : Prop :=
  ∃ (n : Int) (la : Option Addr) (ln lc : Nat), ZtAt wr w.heap.size ∧ wr.heap[TB]? = some (.cells #[.int .i64 k, .int .i64 n, .slice la ln lc, v] 29 (0, 0)) ∧ w.grownBy wr (some R) ∧ w.heap.size < TB ∧ (∃ x xl xc, v = .slice x xl xc) ∧
  ((E ≠ 0 ∧ r = .no E ∧ ∃ p' m', R4At wr R s p' m' E) ∨
   (E = 0 ∧ ∃ (kN nN : Nat) (ls : Fo) (G : Ft) (p' m' : Nat), k = kN ∧ n = nN ∧ ln = ls.len ∧ G.len = j ∧ r = ((rowsT (rdT s d) k b (c - j) j p' m').prep G).fill kN nN ls ∧ TsMix 0 (TB + 1) wr v G ∧ SlIn wr (Mx 0 (TB + 1) wr v) ls la lc ∧ R4At wr R s p' m' 0 ∧ p' ≤ s.size ∧ m' ≤ 600))
theorem LpT.facts {w : World} {R : Nat} {s : ByteArray} {TB : Nat} {r : Tl} {d b : Nat} {k : Int} {c j E : Nat} {v : Value} {wr : World} (h : LpT w R s TB r d b k c j E v wr) :
    (∃ p' m', R4At wr R s p' m' E) ∧ wr.cell? ⟨TB, 3, none⟩ = some v ∧ (∀ o, wr.frozen? ⟨TB, o, none⟩ = false) ∧ TB < wr.heap.size := by
  obtain ⟨n, la, ln, lc, h0, h1, h2, h3, h4, h5⟩ := h
  refine ⟨?_, cell_at h1 3, free_of h1, lt_of_block h1⟩
  rcases h5 with ⟨_, _, h⟩ | ⟨rfl, _, _, _, _, p', m', _, _, _, _, _, _, _, h, _⟩
  · exact h
  · exact ⟨p', m', h⟩
/-- The loop ends by an error. -/
theorem LpT.err {w : World} {R : Nat} {s : ByteArray} {TB : Nat} {r : Tl} {d b : Nat} {k : Int} {c j E : Nat} {v : Value} {wr : World} (h : LpT w R s TB r d b k c j E v wr) (hE : E ≠ 0) : ∃ n la ln lc ka kn kc, v = .slice ka kn kc ∧ LtEnd w R s TB r k n la ln lc ka kn kc wr := by
  obtain ⟨n, la, ln, lc, h0, h1, h2, h3, ⟨x, xl, xc, rfl⟩, h5⟩ := h
  rcases h5 with ⟨_, rfl, h⟩ | ⟨he, _⟩
  · exact ⟨n, la, ln, lc, x, xl, xc, rfl, h0, h1, h2, h, h3⟩
  · exact absurd he hE
/-- The loop ends when all have been read. -/
theorem LpT.all {w : World} {R : Nat} {s : ByteArray} {TB : Nat} {r : Tl} {d b : Nat} {k : Int} {c j : Nat} {v : Value} {wr : World} (h : LpT w R s TB r d b k c j 0 v wr) (hj : c ≤ j) : ∃ n la ln lc ka kn kc, v = .slice ka kn kc ∧ LtEnd w R s TB r k n la ln lc ka kn kc wr := by
  obtain ⟨n, la, ln, lc, h0, h1, h2, h3, _, h5⟩ := h
  rcases h5 with ⟨he, _⟩ | ⟨_, kN, nN, ls, G, p', m', rfl, rfl, rfl, g1, g2, g3, g4, g5, g6, g7⟩
  · exact absurd rfl he
  · rw [show c - j = 0 by omega] at g2
    simp only [rowsT, Ts.prep, Ft.app_nil, Ts.fill] at g2
    obtain ⟨x, cc, hv, hs⟩ := g3.slice
    subst hv g2
    exact ⟨nN, la, ls.len, lc, x, G.len, cc, rfl, h0, h1, h2, ⟨rfl, rfl, rfl, rfl, g4.weak (fun b hb => ⟨by have := hb.1; omega, hb.2.1⟩), hs.weak (fun b hb => ⟨by have := hb.1; omega, hb.2⟩), g5⟩, h3⟩
/-- THE APPEND of a term, whatever its slices are, behind a row of the call's own: what it comes to; what else has changed; where the term lies in memory, the row grows by it. -/
theorem append_raw {lo : Nat} {W : World} {v : Value} {G : Ft} (h : TsMix 0 lo W v G) (k n : Int) (la x : Option Addr) (ln lc xn c : Nat) (ty : TypeId) (hG : G.len ≤ 1000) (hW : lo ≤ W.heap.size) :
    ∃ g' cap' w3, (Builtin.append_ #[27, 27] ty #[v, .slice (some ⟨W.heap.size, 0, none⟩) 1 1]).run Try.prog (W.alloc (.cells #[.int .i64 k, .int .i64 n, .slice la ln lc, .slice x xn c] 29)) = .ok (.slice (some ⟨g', 0, none⟩) (G.len + 1) cap') w3 ∧
      (∀ (L : Fo) (F : Ft), ln = L.len → xn = F.len → SlIn W (Mx 0 lo W v) L la lc → TlIn W (Mx 0 lo W v) F x c → TsMix 0 lo w3 (.slice (some ⟨g', 0, none⟩) (G.len + 1) cap') (G.app (.cons k n L F .nil))) ∧ (∀ b, Mx 0 lo W v b → Mx 0 lo w3 (.slice (some ⟨g', 0, none⟩) (G.len + 1) cap') b) ∧ (∀ b, b < W.heap.size → some b ≠ v.ownBlock → w3.heap[b]? = W.heap[b]?) ∧ W.heap.size + 1 ≤ w3.heap.size ∧ w3.os = W.os ∧ w3.tape = W.tape ∧ w3.output = W.output := by
  obtain ⟨xs, h1, h2⟩ := h
  obtain ⟨i0, hi, hz0, hz1, hz2⟩ := info_parts infoTerm
  have hE := heap_new W (.cells #[.int .i64 k, .int .i64 n, .slice la ln lc, .slice x xn c] 29)
  have hc : ∀ i u, [Value.int .i64 k, .int .i64 n, .slice la ln lc, .slice x xn c][i]? = some u → (W.alloc (.cells #[.int .i64 k, .int .i64 n, .slice la ln lc, .slice x xn c] 29)).cell? ((⟨W.heap.size, 0, none⟩ : Addr).add i) = some u := by
    intro i u hi
    match i, hi with
    | 0, hi => cases hi; exact cell_at hE 0
    | 1, hi => cases hi; exact cell_at hE 1
    | 2, hi => cases hi; exact cell_at hE 2
    | 3, hi => cases hi; exact cell_at hE 3
  have ho : ∀ u ∈ [Value.int .i64 k, .int .i64 n, .slice la ln lc, .slice x xn c], u.oneCell' = true := by
    intro u hu
    simp only [List.mem_cons, List.not_mem_nil, or_false] at hu
    rcases hu with rfl | rfl | rfl | rfl <;> rfl
  obtain ⟨v', w3, hrun, a1, a2, _, a3⟩ := run_append_own_at (P := Try.prog) _ lo 27 ty 29 i0 _ 4 64 Try.underlying27 hi hz0 hz1 hz2 rfl (by omega) v G.len xs (h1.alloc _) ⟨W.heap.size, 0, none⟩ 1 1 _ rfl hc ho (by unfold maxLen; omega) (by omega) (by simp; omega)
  obtain ⟨g', cap', rfl⟩ := ownsRow_is a1 (Nat.succ_pos _)
  have z2 := a2.size
  rw [World.size_alloc] at z2
  have same : ∀ b, b < W.heap.size → some b ≠ v.ownBlock → w3.heap[b]? = W.heap[b]? := fun b hb hn => (a2.block b (by rw [World.size_alloc]; omega) hn).trans (heap_old _ _ hb)
  have hnew : ∀ b, b < W.heap.size → some b ≠ v.ownBlock → some b ≠ (Value.slice (some ⟨g', 0, none⟩) (G.len + 1) cap').ownBlock := fun b hb hn => by
    rcases a3 with a3 | a3
    · rw [a3]; exact hn
    · rw [a3]; intro e; injection e with e; simp at e; omega
  have hQ : ∀ b, Mx 0 lo W v b → Mx 0 lo w3 (.slice (some ⟨g', 0, none⟩) (G.len + 1) cap') b := fun b hb => ⟨hb.1, by have := hb.2.1; omega, hnew b hb.2.1 hb.2.2⟩
  refine ⟨g', cap', w3, hrun, fun L F eL eF hl hs => ⟨xs ++ [.int .i64 k, .int .i64 n, .slice la ln lc, .slice x xn c], ?_, ?_⟩, hQ, same, z2, a2.os, a2.tape, a2.output⟩
  · rw [Ft.app_len]; exact a1
  · subst eL eF
    exact RepT.snoc ((hl.keep (fun b hb => same b hb.2.1 hb.2.2)).weak hQ) (hs.turn (fun b hb => same b hb.2.1 hb.2.2) hQ) (h2.turn (fun b hb => same b hb.2.1 hb.2.2) hQ)
/-- One term more has been read, or an error was met. -/
theorem LpT.next {w : World} {R : Nat} {s : ByteArray} {TB : Nat} {r : Tl} {d b : Nat} {k : Int} {c j : Nat} {v : Value} {wr : World} (hL : LpT w R s TB r d b k c j 0 v wr) (hjc : j < c) (hc : c ≤ 10) (hR : R < w.heap.size) :
    ∃ p' m', R4At wr R s p' m' 0 ∧ p' ≤ s.size ∧ m' ≤ 600 ∧ ∀ (w2 : World) (k' n' : Int) (la : Option Addr) (ln lc : Nat) (ka : Option Addr) (kn kc : Nat), wr.grownBy w2 (some R) → RtIs R s (rdT s d (b + (bindK k j).toNat) p' m') wr.heap.size w2 k' n' la ln lc ka kn kc →
      w2.cell? ⟨TB, 3, none⟩ = some v ∧ (w2.alloc (.cells #[.int .i64 k', .int .i64 n', .slice la ln lc, .slice ka kn kc] 29)).cell? ⟨TB, 3, none⟩ = some v ∧ ∃ g' cap' w3, Hid ((Builtin.append_ #[27, 27] 27 #[v, .slice (some ⟨w2.heap.size, 0, none⟩) 1 1]).run Try.prog (w2.alloc (.cells #[.int .i64 k', .int .i64 n', .slice la ln lc, .slice ka kn kc] 29)) = .ok (.slice (some ⟨g', 0, none⟩) (j + 1) cap') w3) ∧
        w3.cell? ⟨TB, 3, none⟩ = some v ∧ (∀ o, w3.frozen? ⟨TB, o, none⟩ = false) ∧ ∃ E, Hid (LpT w R s TB r d b k c (j + 1) E (.slice (some ⟨g', 0, none⟩) (j + 1) cap') (w3.setCell ⟨TB, 3, none⟩ (.slice (some ⟨g', 0, none⟩) (j + 1) cap'))) := by
  obtain ⟨n, la0, ln0, lc0, h0, h1, h2, h3, h4, h5⟩ := hL
  rcases h5 with ⟨he, _⟩ | ⟨_, kN, nN, ls, G, p', m', rfl, rfl, rfl, g1, g2, g3, g4, g5, g6, g7⟩
  · exact absurd rfl he
  refine ⟨p', m', g5, g6, g7, fun w2 k' n' la ln lc ka kn kc q1 q2 => ?_⟩
  have hTB := lt_of_block h1
  have hvb := g3.lt
  have z1 := q1.size
  have zw := h2.size
  have nv : ∀ x, x ≤ TB → some x ≠ v.ownBlock := fun x hx e => by have := hvb x e.symm; omega
  have m2 : TsMix 0 (TB + 1) w2 v G := g3.grow z1 (fun x hx hx2 => Only.block q1 hx2 (by omega))
  obtain ⟨g', cap', w3, hrun, hgrow, hQ, same, z3, o1, o2, o3⟩ := append_raw m2 k' n' la ka ln lc kn kc 27 (by omega) (by omega)
  rw [g1] at hrun hgrow hQ
  have b2 : w2.heap[TB]? = some _ := (Only.block q1 hTB (by omega)).trans h1
  have b3 : w3.heap[TB]? = some _ := (same TB (by omega) (nv TB (Nat.le_refl _))).trans b2
  refine ⟨cell_at b2 3, cell_at ((heap_old _ _ (by omega)).trans b2) 3, g', cap', w3, Lib.hid hrun, cell_at b3 3, free_of b3, ?_⟩
  generalize hv' : Value.slice (some ⟨g', 0, none⟩) (j + 1) cap' = v' at hrun hgrow hQ
  have z4 : (w3.setCell ⟨TB, 3, none⟩ v').heap.size = w3.heap.size := by simp
  have b4 : (w3.setCell ⟨TB, 3, none⟩ v').heap[TB]? = some (.cells #[.int .i64 (kN : Int), .int .i64 (nN : Int), .slice la0 ls.len lc0, v'] 29 (0, 0)) := heap_setCell_same w3 TB 3 _ _ v' b3
  have same4 : ∀ x, x < w2.heap.size → x ≠ TB → some x ≠ v.ownBlock → (w3.setCell ⟨TB, 3, none⟩ v').heap[x]? = w2.heap[x]? := fun x hx hn hn2 => (Below.heap_setCell _ _ _ _ hn).trans (same x hx hn2)
  have hg4 : w.grownBy (w3.setCell ⟨TB, 3, none⟩ v') (some R) := by
    refine ⟨(o1.trans q1.os).trans h2.os, (o2.trans q1.tape).trans h2.tape, (o3.trans q1.output).trans h2.output, by omega, fun i hi hne => ?_⟩
    have hiR : i ≠ R := fun e => hne (by rw [e])
    rw [same4 i (by omega) (by omega) (nv i (by omega)), Only.block q1 (by omega) hiR]
    exact h2.block i hi hne
  have hZ : ZtAt (w3.setCell ⟨TB, 3, none⟩ v') w.heap.size := ((same4 _ (by omega) (by omega) (nv _ (by omega))).trans (Only.block q1 (by omega) (by omega))).trans h0
  have hR4 : (w3.setCell ⟨TB, 3, none⟩ v').heap[R]? = w2.heap[R]? := same4 R (by omega) (by omega) (nv R (by omega))
  have hcj : c - j = (c - (j + 1)) + 1 := by omega
  have hsl : ∃ x xl xc, v' = .slice x xl xc := ⟨_, _, _, hv'.symm⟩
  have up : ∀ x, Mx 0 (TB + 1) w2 v x → Mx 0 (TB + 1) (w3.setCell ⟨TB, 3, none⟩ v') v' x := fun x hx => ⟨(hQ x hx).1, by rw [z4]; exact (hQ x hx).2.1, (hQ x hx).2.2⟩
  cases hrd : rdT s d (b + (bindK (kN : Int) j).toNat) p' m' with
  | no er =>
    have he := rdT_once s d (b + (bindK (kN : Int) j).toNat) p' m' g6
    rw [hrd] at q2 he
    obtain ⟨p2, m2', q2⟩ := q2
    refine ⟨er, Lib.hid ⟨nN, la0, ls.len, lc0, hZ, b4, hg4, h3, hsl, .inl ⟨he, ?_, p2, m2', hR4.trans q2⟩⟩⟩
    rw [g2, hcj, rowsT_no hrd]; rfl
  | ok k1 n1 l1 F q mq =>
    have ro := rdT_once s d (b + (bindK (kN : Int) j).toNat) p' m' g6
    rw [hrd] at q2 ro
    obtain ⟨rfl, rfl, rfl, rfl, q5, q6, q7⟩ := q2
    obtain ⟨_, r2, r3, r4, _⟩ := ro
    have inMx : ∀ x, wr.heap.size ≤ x ∧ x < w2.heap.size → Mx 0 (TB + 1) w2 v x := fun x hx => ⟨by omega, hx.2, fun e => by have := hvb x e.symm; omega⟩
    have m3 := hgrow l1 F rfl rfl (q5.weak inMx) (q6.weak inMx)
    refine ⟨0, Lib.hid ⟨nN, la0, ls.len, lc0, hZ, b4, hg4, h3, hsl, .inr ⟨rfl, kN, nN, ls, G.app (.cons k1 n1 l1 F .nil), q, mq, rfl, rfl, rfl, by rw [Ft.app_len, g1]; rfl, ?_, m3.setLow (Nat.zero_le _) (Nat.lt_succ_self _) 3 v', ?_, hR4.trans q7, r4.2.1, r3⟩⟩⟩
    · rw [g2, hcj, rowsT_ok hrd, Ts.prep_prep]
    · refine (g4.keep (fun x hx => ?_)).weak (fun x hx => up x ⟨hx.1, by have := hx.2.1; omega, hx.2.2⟩)
      have hx1 := hx.1
      have hx2 := hx.2.1
      rw [same4 x (by omega) (by omega) hx.2.2]
      exact Only.block q1 hx2 (by omega)
end Go.Proofs.Ythnkoamabfaioaa
