/- What lies in memory while levels are put one by one: the arena, the row of the levels and the row of their places, apart from each other. No condition but those that stand in each statement. -/
import Derived.Test.YtmbopdlmkbbbiaaBackm
import Derived.Test.YtmbopdlmkbbbiaaTold4
import Derived.Test.YtmbopdlmkbbbiaaKids
import Derived.Test.YtmbopdlmkbbbiaaIown
import Derived.Test.YtmbopdlmkbbbiaaAblevel
namespace Go.Proofs.Ytmbopdlmkbbbiaa
open Go.RowKit

theorem row_keep {w w' : World} {base sz n : Nat} {ty : TypeId} {v : Value} {xs : List Value} (h : w.ownsRow base ty sz v n xs) (hk : ∀ g, v.ownBlock = some g → w'.heap[g]? = w.heap[g]?) : w'.ownsRow base ty sz v n xs := by
  refine ⟨h.1, ?_⟩
  rcases h.2 with hn | ⟨g, cap, cur, e, hb, hh, rest⟩
  · exact .inl hn
  · exact .inr ⟨g, cap, cur, e, hb, (hk g (by rw [e]; rfl)).trans hh, rest⟩
/-- Blocks behind the arena's variable that are none of the two rows' own. -/
def Nx (W : World) (A : Nat) (v5 v6 : Value) (b : Nat) : Prop := A < b ∧ b < W.heap.size ∧ some b ≠ v5.ownBlock ∧ some b ≠ v6.ownBlock
def BkSt (W : World) (A : Nat) (v5 v6 : Value) (ns : List Nd) (x : Option Addr) (c : Nat) (G : Fo) (zs : List Int) : Prop :=
  W.heap[A]? = some (.cells #[.slice x ns.length c] 26 (0, 0)) ∧ NsIn W (Nx W A v5 v6) ns x c ∧
  (∃ xs, W.ownsRow (A + 1) 30 3 v5 G.len xs ∧ RepP W (Nx W A v5 v6) G xs) ∧ IOwn W (A + 1) v6 zs ∧ (∀ g, v5.ownBlock = some g → v6.ownBlock ≠ some g)
section
variable {W W' : World} {A : Nat} {v5 v6 : Value} {ns : List Nd} {x : Option Addr} {c : Nat} {G : Fo} {zs : List Int}
theorem BkSt.later (h : BkSt W A v5 v6 ns x c G zs) (hb : Below W.heap.size W W') : BkSt W' A v5 v6 ns x c G zs := by
  obtain ⟨h1, h2, ⟨xs, h3, h4⟩, h5, h6⟩ := h
  have hz := hb.size
  have hq : ∀ b, Nx W A v5 v6 b → Nx W' A v5 v6 b := fun b k => ⟨k.1, by have := k.2.1; omega, k.2.2⟩
  exact ⟨(hb.block _ (lt_of_block h1)).trans h1, (h2.keep (fun b k => hb.block b k.2.1)).weak hq, ⟨xs, row_keep h3 (fun g hg => hb.block g (World.ownsRow.lt h3 g hg).2), h4.keep (fun b k => hb.block b k.2.1) hq⟩, h5.keep (fun g hg => hb.block g (h5.lt g hg).2), h6⟩
/-- What was made later than the rows is none of theirs. -/
theorem BkSt.late (h : BkSt W A v5 v6 ns x c G zs) : ∀ b, (W.heap.size ≤ b ∧ b < W'.heap.size) → Nx W' A v5 v6 b := by
  obtain ⟨h1, _, ⟨xs, h3, _⟩, h5, _⟩ := h
  have hA := lt_of_block h1
  exact fun b k => ⟨by omega, k.2, fun e => by have := (World.ownsRow.lt h3 b e.symm).2; omega, fun e => by have := (h5.lt b e.symm).2; omega⟩
/-- The arena's variable is set. -/
theorem BkSt.turn (h : BkSt W A v5 v6 ns x c G zs) {ns' : List Nd} {x' : Option Addr} {c' : Nat} (hn : NsIn W (Nx W A v5 v6) ns' x' c') : BkSt (W.setCell ⟨A, 0, none⟩ (.slice x' ns'.length c')) A v5 v6 ns' x' c' G zs := by
  obtain ⟨h1, h2, ⟨xs, h3, h4⟩, h5, h6⟩ := h
  have e1 : (W.setCell ⟨A, 0, none⟩ (.slice x' ns'.length c')).heap[A]? = some (.cells #[.slice x' ns'.length c'] 26 (0, 0)) := set_one h1
  have hk : ∀ b, A < b → (W.setCell ⟨A, 0, none⟩ (.slice x' ns'.length c')).heap[b]? = W.heap[b]? := fun b hb => Below.heap_setCell _ _ _ _ (Nat.ne_of_gt hb)
  have hz : (W.setCell ⟨A, 0, none⟩ (.slice x' ns'.length c')).heap.size = W.heap.size := by simp
  generalize W.setCell ⟨A, 0, none⟩ (.slice x' ns'.length c') = W2 at e1 hk hz ⊢
  have hq : ∀ b, Nx W A v5 v6 b → Nx W2 A v5 v6 b := fun b k => ⟨k.1, by have := k.2.1; omega, k.2.2⟩
  exact ⟨e1, (hn.keep (fun b k => hk b k.1)).weak hq, ⟨xs, row_keep h3 (fun g hg => hk g (World.ownsRow.lt h3 g hg).1), h4.keep (fun b k => hk b k.1) hq⟩, h5.keep (fun g hg => hk g (h5.lt g hg).1), h6⟩
/-- A level is put behind the others. -/
theorem BkSt.level (h : BkSt W A v5 v6 ns x c G zs) (k n : Int) {F : Fo} {y : Option Addr} {d : Nat} (hs : SlIn W (Nx W A v5 v6) F y d) (hG : G.len ≤ 1000) :
    ∃ g' cap' w3, (Builtin.append_ #[28, 28] 28 #[v5, .slice (some ⟨W.heap.size, 0, none⟩) 1 1]).run Try.prog (W.alloc (.cells #[.int .i64 k, .int .i64 n, .slice y F.len d] 30)) = .ok (.slice (some ⟨g', 0, none⟩) (G.len + 1) cap') w3 ∧
      BkSt w3 A (.slice (some ⟨g', 0, none⟩) (G.len + 1) cap') v6 ns x c (G.app (.cons k n F .nil)) zs ∧ Below (A + 1) W w3 := by
  obtain ⟨h1, h2, ⟨xs, h3, h4⟩, h5, h6⟩ := h
  have hA := lt_of_block h1
  obtain ⟨v', w3, hrun, a1, a2, a3⟩ := append_kid 28 h3 hG hA k n y F.len d
  obtain ⟨g', cap', rfl⟩ := ownsRow_succ a1
  have z2 := a2.size
  rw [World.size_alloc] at z2
  have l3 := World.ownsRow.lt h3
  have l5 := h5.lt
  have same : ∀ b, b < W.heap.size → some b ≠ v5.ownBlock → w3.heap[b]? = W.heap[b]? := fun b hb hn => (a2.block b (by rw [World.size_alloc]; omega) hn).trans (heap_old _ _ hb)
  have hnew : ∀ b, b < W.heap.size → some b ≠ v5.ownBlock → some b ≠ (Value.slice (some ⟨g', 0, none⟩) (G.len + 1) cap').ownBlock := fun b hb hn => by
    rcases a3 with a3 | a3
    · rw [a3]; exact hn
    · rw [a3]; intro e; injection e with e; omega
  have hq : ∀ b, Nx W A v5 v6 b → Nx w3 A (.slice (some ⟨g', 0, none⟩) (G.len + 1) cap') v6 b := fun b k => ⟨k.1, by have := k.2.1; omega, hnew b k.2.1 k.2.2.1, k.2.2.2⟩
  have hk : ∀ b, Nx W A v5 v6 b → w3.heap[b]? = W.heap[b]? := fun b k => same b k.2.1 k.2.2.1
  refine ⟨g', cap', w3, hrun, ⟨(same A hA (fun e => by have := (l3 A e.symm).1; omega)).trans h1, (h2.keep hk).weak hq, ⟨_, by rw [Fo.app_len]; exact a1, RepP.snoc ((hs.keep hk).weak hq) (h4.keep hk hq)⟩, h5.keep (fun g hg => same g (l5 g hg).2 (fun e => h6 g e.symm hg)), fun g hg hg6 => ?_⟩, ⟨a2.os, a2.tape, a2.output, by omega, fun b hb => same b (by omega) (fun e => by have := (l3 b e.symm).1; omega)⟩⟩
  rcases a3 with a3 | a3
  · rw [a3] at hg
    exact h6 g hg hg6
  · rw [a3] at hg
    injection hg with hg
    have := (l5 g hg6).2
    omega
/-- A place is put behind the others. -/
theorem BkSt.place (h : BkSt W A v5 v6 ns x c G zs) (z : Int) (hsz : zs.length ≤ 1000) :
    ∃ g' cap' w3, (Builtin.append_ #[35, 35] 35 #[v6, .slice (some ⟨W.heap.size, 0, none⟩) 1 1]).run Try.prog (W.alloc (.cells #[.int .i64 z] 3)) = .ok (.slice (some ⟨g', 0, none⟩) (zs.length + 1) cap') w3 ∧
      BkSt w3 A v5 (.slice (some ⟨g', 0, none⟩) (zs.length + 1) cap') ns x c G (zs ++ [z]) ∧ Below (A + 1) W w3 := by
  obtain ⟨h1, h2, ⟨xs, h3, h4⟩, h5, h6⟩ := h
  have hA := lt_of_block h1
  obtain ⟨g', cap', w3, hrun, a1, t1, t2, t3, t4, t5, t6⟩ := h5.push 35 z (by omega) (by omega)
  have l3 := World.ownsRow.lt h3
  have l5 := h5.lt
  have same : ∀ b, b < W.heap.size → some b ≠ v6.ownBlock → w3.heap[b]? = W.heap[b]? := fun b hb hn => t5 b hb (fun e => hn e.symm)
  have hnew : ∀ b, b < W.heap.size → some b ≠ v6.ownBlock → some b ≠ (Value.slice (some ⟨g', 0, none⟩) (zs.length + 1) cap').ownBlock := fun b hb hn e => by
    rcases t6 b e.symm with h | h
    · exact hn h.symm
    · omega
  have hq : ∀ b, Nx W A v5 v6 b → Nx w3 A v5 (.slice (some ⟨g', 0, none⟩) (zs.length + 1) cap') b := fun b k => ⟨k.1, by have := k.2.1; omega, k.2.2.1, hnew b k.2.1 k.2.2.2⟩
  have hk : ∀ b, Nx W A v5 v6 b → w3.heap[b]? = W.heap[b]? := fun b k => same b k.2.1 k.2.2.2
  refine ⟨g', cap', w3, hrun, ⟨(same A hA (fun e => by have := (l5 A e.symm).1; omega)).trans h1, (h2.keep hk).weak hq, ⟨xs, row_keep h3 (fun g hg => same g (l3 g hg).2 (fun e => h6 g hg e.symm)), h4.keep hk hq⟩, a1, fun g hg hg6 => ?_⟩, ⟨t1, t2, t3, by omega, fun b hb => same b (by omega) (fun e => by have := (l5 b e.symm).1; omega)⟩⟩
  exact hnew g (l3 g hg).2 (fun e => h6 g hg e.symm) hg6.symm
end
/-- What stands in memory between two rounds. -/
def BkR (w : World) (A j : Nat) (v5 v6 : Value) (wr : World) : Prop := ∃ (ns : List Nd) (x : Option Addr) (c : Nat) (G : Fo) (ps : List Nat), BkSt wr A v5 v6 ns x c G (ps.map (fun p : Nat => (p : Int))) ∧ goodN [] ns = true ∧ ns.length ≤ 100 * j ∧ G.len = j ∧ Lay ns G ps ∧ Below w.heap.size w wr
theorem BkR.start {w w1 : World} (hb : Below w.heap.size w w1) : BkR w w1.heap.size 0 (.slice none 0 0) (.slice none 0 0) (w1.alloc (.cells #[.slice none 0 0] 26)) :=
  ⟨[], none, 0, .nil, [], ⟨heap_new _ _, ⟨Nat.le_refl _, Nat.zero_le _, fun _ => rfl, fun h => by simp at h⟩, ⟨[], World.ownsRow_nil _ _ _ _, rfl⟩, IOwn.nil _ _, fun g hg => by simp [Value.ownBlock] at hg⟩, rfl, Nat.zero_le _, rfl, trivial, hb.alloc hb.size _⟩
/-- A round: the arena is set, the level and the place are put behind the others. -/
theorem BkR.next {w : World} {A j : Nat} {v5 v6 : Value} {wr wq : World} {ns e : List Nd} {x x' : Option Addr} {c c' : Nat} {G : Fo} {ps : List Nat} {k n : Int} {F : Fo} {y : Option Addr} {d p : Nat}
    (h1 : BkSt wr A v5 v6 ns x c G (ps.map (fun p : Nat => (p : Int)))) (hG : G.len = j) (hj : j ≤ 8) (hL : Lay ns G ps) (hb : Below w.heap.size w wr) (hA : w.heap.size ≤ A)
    (q1 : goodN [] (ns ++ e) = true) (q2 : (ns ++ e).length ≤ 100 * (j + 1)) (q3 : p < (ns ++ e).length) (q4 : tr (ns ++ e) p = .cons k n F .nil) (q5 : rightB 5 10 k n F = true)
    (b1 : Below wr.heap.size wr wq) (hn : NsIn wq (fun b => wr.heap.size ≤ b ∧ b < wq.heap.size) (ns ++ e) x' c') (hs : SlIn wq (fun b => wr.heap.size ≤ b ∧ b < wq.heap.size) F y d) :
    ∃ g5 c5 w3 g6 c6 w4, (Builtin.append_ #[28, 28] 28 #[v5, .slice (some ⟨wq.heap.size, 0, none⟩) 1 1]).run Try.prog ((wq.setCell ⟨A, 0, none⟩ (.slice x' (ns ++ e).length c')).alloc (.cells #[.int .i64 k, .int .i64 n, .slice y F.len d] 30)) = .ok (.slice (some ⟨g5, 0, none⟩) (j + 1) c5) w3 ∧
      (Builtin.append_ #[35, 35] 35 #[v6, .slice (some ⟨w3.heap.size, 0, none⟩) 1 1]).run Try.prog (w3.alloc (.cells #[.int .i64 (p : Nat)] 3)) = .ok (.slice (some ⟨g6, 0, none⟩) (j + 1) c6) w4 ∧
      BkR w A (j + 1) (.slice (some ⟨g5, 0, none⟩) (j + 1) c5) (.slice (some ⟨g6, 0, none⟩) (j + 1) c6) w4 := by
  subst hG
  have hlate := h1.late (W' := wq)
  have hz := b1.size
  have hAr := lt_of_block h1.1
  have s1 := (h1.later b1).turn (hn.weak hlate)
  have hs1 : SlIn (wq.setCell ⟨A, 0, none⟩ (.slice x' (ns ++ e).length c')) (Nx (wq.setCell ⟨A, 0, none⟩ (.slice x' (ns ++ e).length c')) A v5 v6) F y d := by
    refine (SlIn.keep (w := wq) (fun b k => Below.heap_setCell _ _ _ _ (Nat.ne_of_gt k.1)) (hs.weak hlate)).weak (fun b k => ⟨k.1, by have := k.2.1; simpa using this, k.2.2⟩)
  have bA : Below w.heap.size w (wq.setCell ⟨A, 0, none⟩ (.slice x' (ns ++ e).length c')) := (Below.step hb b1 (Nat.le_refl _)).setCell hA _
  have hsz : (wq.setCell ⟨A, 0, none⟩ (.slice x' (ns ++ e).length c')).heap.size = wq.heap.size := by simp
  obtain ⟨g5, c5, w3, r1, s2, k2⟩ := s1.level k n hs1 (by omega)
  obtain ⟨g6, c6, w4, r2, s3, k3⟩ := s2.place (p : Nat) (by rw [List.length_map, hL.len]; omega)
  rw [hsz] at r1
  rw [List.length_map, hL.len] at r2 s3
  refine ⟨g5, c5, w3, g6, c6, w4, r1, r2, ns ++ e, x', c', G.app (.cons k n F .nil), ps ++ [p], ?_, q1, q2, by rw [Fo.app_len]; rfl, (hL.grow e).snoc q3 q4 q5, (bA.trans (k2.mono (by omega))).trans (k3.mono (by omega))⟩
  rw [List.map_append]
  exact s3
/-- When all levels are put: what the rest reads. -/
def BkE (w : World) (A j : Nat) (x5 : Option Addr) (c5 : Nat) (x6 : Option Addr) (W : World) : Prop := ∃ (ns : List Nd) (x : Option Addr) (c : Nat) (G : Fo) (ps : List Nat),
  W.heap[A]? = some (.cells #[.slice x ns.length c] 26 (0, 0)) ∧ NsIn W (· < W.heap.size) ns x c ∧ SlIn W (· < W.heap.size) G x5 c5 ∧ (∀ i, i < j → ∃ g, x6 = some ⟨g, 0, none⟩ ∧ g < W.heap.size ∧ W.cell? ⟨g, i, none⟩ = some (.int .i64 (ps.getD i 0 : Nat))) ∧ goodN [] ns = true ∧ ns.length ≤ 1000 ∧ G.len = j ∧ Lay ns G ps ∧ Below w.heap.size w W
theorem BkR.fin {w : World} {A j : Nat} {v5 v6 : Value} {wr : World} (h : BkR w A j v5 v6 wr) (hj : j ≤ 8) : ∃ x5 c5 x6 c6, v5 = .slice x5 j c5 ∧ v6 = .slice x6 j c6 ∧ BkE w A j x5 c5 x6 wr := by
  obtain ⟨ns, x, c, G, ps, ⟨h1, h2, ⟨xs, h3, h4⟩, h5, h6⟩, q1, q2, q3, q4, q5⟩ := h
  subst q3
  obtain ⟨x5, c5, e5, s5⟩ := RepP.slice (P := fun b => b < wr.heap.size) h3 (h4.keep (fun _ _ => rfl) (fun b k => k.2.1)) rfl (fun g hg => (World.ownsRow.lt h3 g hg).2)
  obtain ⟨x6, _, e6⟩ := h5.form
  rw [List.length_map, q4.len] at e6
  refine ⟨x5, c5, x6, _, e5, e6, ns, x, c, G, ps, h1, h2.weak (fun b k => k.2.1), s5, fun i hi => ?_, q1, by omega, rfl, q4, q5⟩
  have hl := q4.len
  obtain ⟨g, c', e, _, hg, hc⟩ := h5.at (i := i) (by rw [List.length_map]; omega)
  rw [e6] at e
  injection e with e _ _
  refine ⟨g, e, hg, hc.trans ?_⟩
  rw [List.getD_eq_getElem?_getD, List.getElem?_map, List.getD_eq_getElem?_getD, List.getElem?_eq_getElem (by omega)]
  rfl
end Go.Proofs.Ytmbopdlmkbbbiaa
