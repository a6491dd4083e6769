/- The builder of nodes: what lies in memory, and the contracts of its node and level. No condition but that the nodes, the map and the level lie in memory. -/
import Derived.Test.YtmbopdlmkbbbiaaAclone
import Derived.Test.YtmbopdlmkbbbiaaStep
import Derived.Deep.RegionLaw
import Derived.Deep.RegionHeld3
import Derived.IntWalk
namespace Go.Proofs.Ytmbopdlmkbbbiaa
open Go.RowKit

/-- The block of a slice. -/
def rowOf (x : Option Addr) : Option Nat := (Value.slice x 0 0).ownBlock
theorem rowOf_eq (x : Option Addr) (n c : Nat) : (Value.slice x n c).ownBlock = rowOf x := by cases x <;> rfl
/-- Only the blocks B, r, that of x, and what is new, have changed. -/
structure Ch (w w' : World) (B r : Nat) (x : Option Addr) : Prop where
  os : w'.os = w.os
  tape : w'.tape = w.tape
  output : w'.output = w.output
  size : w.heap.size ≤ w'.heap.size
  block : ∀ k, k < w.heap.size → k ≠ B → k ≠ r → some k ≠ rowOf x → w'.heap[k]? = w.heap[k]?
/-- The new slice lies where the old one did, or in a new block. -/
def Nr (w : World) (x x' : Option Addr) : Prop := rowOf x' = rowOf x ∨ ∀ k, rowOf x' = some k → w.heap.size ≤ k
theorem Nr.trans {w w1 : World} {x x1 x2 : Option Addr} (h : Nr w x x1) (hz : w.heap.size ≤ w1.heap.size) (k : Nr w1 x1 x2) : Nr w x x2 := by
  rcases k with k | k
  · rcases h with h | h
    · exact .inl (k.trans h)
    · exact .inr (fun y hy => h y (k ▸ hy))
  · exact .inr (fun y hy => Nat.le_trans hz (k y hy))
theorem Ch.trans {w w1 w2 : World} {B r : Nat} {x x1 : Option Addr} (h : Ch w w1 B r x) (hn : Nr w x x1) (k : Ch w1 w2 B r x1) : Ch w w2 B r x :=
  ⟨k.os.trans h.os, k.tape.trans h.tape, k.output.trans h.output, Nat.le_trans h.size k.size, fun i hi h1 h2 h3 => (k.block i (Nat.lt_of_lt_of_le hi h.size) h1 h2 (by
    rcases hn with hn | hn
    · rw [hn]; exact h3
    · intro e
      have := hn i e.symm
      omega)).trans (h.block i hi h1 h2 h3)⟩
theorem Ch.below {w w' : World} (B r : Nat) (x : Option Addr) (h : Below w.heap.size w w') : Ch w w' B r x := ⟨h.os, h.tape, h.output, h.size, fun i hi _ _ _ => h.block i hi⟩
theorem Nr.refl (w : World) (x : Option Addr) : Nr w x x := .inl rfl
/-- What lies in memory: the builder in block B, its map in block r, its nodes in a row of the call's own. -/
structure BAt (w : World) (lo B r : Nat) (x : Option Addr) (c : Nat) (ns : List Nd) : Prop where
  b : w.heap[B]? = some (.cells #[.slice x ns.length c, .map (some r)] 69 (0, 0))
  m : w.heap[r]? = some (nTab ns)
  own : NOwn w lo (.slice x ns.length c) ns
  lB : lo ≤ B
  lr : lo ≤ r
theorem BAt.ne {w : World} {lo B r : Nat} {x : Option Addr} {c : Nat} {ns : List Nd} (h : BAt w lo B r x c ns) : B ≠ r ∧ some B ≠ rowOf x ∧ some r ≠ rowOf x ∧ B < w.heap.size ∧ r < w.heap.size := by
  refine ⟨?_, ?_, ?_, lt_of_block h.b, lt_of_block h.m⟩
  · rintro rfl
    have := h.b.symm.trans h.m
    simp [nTab] at this
  · intro e
    rcases h.own.2 with ⟨hv, _⟩ | ⟨g, cap, cur, hv, _, hh, _⟩
    · injection hv with hv _ _; subst hv; cases e
    · injection hv with hv _ _; subst hv
      injection e with e
      subst e
      have := h.b.symm.trans hh
      simp at this
  · intro e
    rcases h.own.2 with ⟨hv, _⟩ | ⟨g, cap, cur, hv, _, hh, _⟩
    · injection hv with hv _ _; subst hv; cases e
    · injection hv with hv _ _; subst hv
      injection e with e
      subst e
      have := h.m.symm.trans hh
      simp [nTab] at this
/-- In a later world in which these blocks are as they were. -/
theorem BAt.keep {w w' : World} {lo B r : Nat} {x : Option Addr} {c : Nat} {ns : List Nd} (h : BAt w lo B r x c ns) (hb : Below w.heap.size w w') : BAt w' lo B r x c ns := by
  obtain ⟨h1, h2, h3, h4, h5⟩ := h.ne
  refine ⟨(hb.block B h4).trans h.b, (hb.block r h5).trans h.m, h.own.kept (Only.below B hb) ?_, h.lB, h.lr⟩
  rw [rowOf_eq]
  exact .inr (Ne.symm h2)
/-- A node is put behind the others: what the append comes to, and what lies in memory when the map has been told of it. -/
theorem BAt.push {w : World} {lo B r : Nat} {x : Option Addr} {c : Nat} {ns : List Nd} (hat : BAt w lo B r x c ns) (hlo : lo ≤ w.heap.size) (hn : ns.length ≤ 100000) (k n a b : Int) :
    ∃ x' c' w2, (Builtin.append_ #[24, 24] 24 #[.slice x ns.length c, .slice (some ⟨w.heap.size, 0, none⟩) 1 1]).run Try.prog (w.alloc (.cells #[.int .i64 k, .int .i64 n, .int .i64 a, .int .i64 b] 41)) = .ok (.slice x' (ns.length + 1) c') w2 ∧
      w2.cell? ⟨B, 0, none⟩ = some (.slice x ns.length c) ∧ w2.cell? ⟨B, 1, none⟩ = some (.map (some r)) ∧ (∀ o, w2.frozen? ⟨B, o, none⟩ = false) ∧ (w2.setCell ⟨B, 0, none⟩ (.slice x' (ns.length + 1) c')).heap[r]? = some (nTab ns) ∧
      (∀ m m', BAt ((setO ((w2.setCell ⟨B, 0, none⟩ (.slice x' (ns.length + 1) c')).drewN m) r (nTab (ns ++ [⟨k, n, a, b⟩]))).drewN m') lo B r x' c' (ns ++ [⟨k, n, a, b⟩]) ∧ Ch w ((setO ((w2.setCell ⟨B, 0, none⟩ (.slice x' (ns.length + 1) c')).drewN m) r (nTab (ns ++ [⟨k, n, a, b⟩]))).drewN m') B r x) ∧
      Nr w x x' ∧ (∀ q, q < w.heap.size → some q ≠ rowOf x → w2.heap[q]? = w.heap[q]?) := by
  obtain ⟨g1, g2, g3, g4, g5⟩ := hat.ne
  have hbx : Below w.heap.size w (w.alloc (.cells #[.int .i64 k, .int .i64 n, .int .i64 a, .int .i64 b] 41)) := (Below.refl _ _).alloc (Nat.le_refl _) _
  have hatx := hat.keep hbx
  have hcells : ∀ j u, (ncs [(⟨k, n, a, b⟩ : Nd)])[j]? = some u → (w.alloc (.cells #[.int .i64 k, .int .i64 n, .int .i64 a, .int .i64 b] 41)).cell? ((⟨w.heap.size, 0, none⟩ : Addr).add j) = some u := by
    intro j u hu
    rw [add_none, Nat.zero_add, cell_at (heap_new _ _)]
    match j with
    | 0 => simpa [ncs] using hu
    | 1 => simpa [ncs] using hu
    | 2 => simpa [ncs] using hu
    | 3 => simpa [ncs] using hu
    | j + 4 => simp [ncs] at hu
  obtain ⟨v', w2, hrun, h1, h2, h3⟩ := hatx.own.append 24 (c := 1) hcells (by simp; omega) (by simp; omega)
  have hl : (ns ++ [(⟨k, n, a, b⟩ : Nd)]).length = ns.length + 1 := by simp
  obtain ⟨x', c', rfl⟩ := h1.form
  rw [rowOf_eq] at h2
  rw [rowOf_eq, rowOf_eq] at h3
  have hold : ∀ q, q < w.heap.size → some q ≠ rowOf x → w2.heap[q]? = w.heap[q]? := fun q hq hne => (h2.block q (by simp; omega) hne).trans (heap_old _ _ hq)
  have hB2 : w2.heap[B]? = some (.cells #[.slice x ns.length c, .map (some r)] 69 (0, 0)) := (hold B g4 g2).trans hat.b
  have hr2 : w2.heap[r]? = some (nTab ns) := (hold r g5 g3).trans hat.m
  have hz2 : w.heap.size + 1 ≤ w2.heap.size := by have := h2.size; simpa using this
  have hnr : Nr w x x' := by
    rcases h3 with h3 | h3
    · exact .inl h3
    · exact .inr (fun q hq => by rw [h3] at hq; injection hq with hq; simp at hq; omega)
  have hne' : some B ≠ rowOf x' ∧ some r ≠ rowOf x' := by
    rcases hnr with h | h
    · rw [h]; exact ⟨g2, g3⟩
    · exact ⟨fun e => by have := h B e.symm; omega, fun e => by have := h r e.symm; omega⟩
  refine ⟨x', c', w2, by rw [← hl]; exact hrun, cell_at hB2 0, cell_at hB2 1, free_of hB2, (Below.heap_setCell _ _ _ _ (Ne.symm g1)).trans hr2, fun m m' => ⟨?_, ?_⟩, hnr, hold⟩
  · have e1 : (w2.setCell ⟨B, 0, none⟩ (.slice x' (ns.length + 1) c')).heap[B]? = some (.cells #[.slice x' (ns.length + 1) c', .map (some r)] 69 (0, 0)) := by
      simp only [World.setCell, Array.getElem?_modify, if_true, hB2]; rfl
    have e2 : (w2.setCell ⟨B, 0, none⟩ (.slice x' (ns.length + 1) c')).heap[r]? = some (nTab ns) := (Below.heap_setCell _ _ _ _ (Ne.symm g1)).trans hr2
    have o1 : NOwn (w2.setCell ⟨B, 0, none⟩ (.slice x' (ns.length + 1) c')) lo (.slice x' (ns ++ [(⟨k, n, a, b⟩ : Nd)]).length c') (ns ++ [⟨k, n, a, b⟩]) := h1.kept (Only.set w2 B 0 _) (by rw [rowOf_eq]; exact .inr (Ne.symm hne'.1))
    generalize w2.setCell ⟨B, 0, none⟩ (.slice x' (ns.length + 1) c') = W at e1 e2 o1 ⊢
    refine ⟨?_, ?_, ?_, hat.lB, hat.lr⟩
    · rw [hl]
      exact (setO_ne (W.drewN m) (nTab (ns ++ [⟨k, n, a, b⟩])) g1).trans e1
    · exact setO_at (w := W.drewN m) e2
    · have o2 : NOwn (setO (W.drewN m) r (nTab (ns ++ [⟨k, n, a, b⟩]))) lo (.slice x' (ns ++ [(⟨k, n, a, b⟩ : Nd)]).length c') (ns ++ [⟨k, n, a, b⟩]) := NOwn.kept (w := W.drewN m) o1 (setO_only _ _ _) (by rw [rowOf_eq]; exact .inr (Ne.symm hne'.2))
      exact o2
  · refine ⟨h2.os, h2.tape, h2.output, ?_, fun q hq q1 q2 q3 => ?_⟩
    · show w.heap.size ≤ (setO ((w2.setCell ⟨B, 0, none⟩ (.slice x' (ns.length + 1) c')).drewN m) r _).heap.size
      rw [setO_size]
      show w.heap.size ≤ (w2.setCell ⟨B, 0, none⟩ (.slice x' (ns.length + 1) c')).heap.size
      simp; omega
    · show (setO ((w2.setCell ⟨B, 0, none⟩ (.slice x' (ns.length + 1) c')).drewN m) r _).heap[q]? = _
      rw [setO_ne _ _ q2]
      show (w2.setCell ⟨B, 0, none⟩ (.slice x' (ns.length + 1) c')).heap[q]? = _
      rw [Below.heap_setCell _ _ _ _ q1]
      exact hold q hq q3
/-- What adding answers. -/
def BnPost (lo B r : Nat) (x : Option Addr) (p : List Nd × Nat) (w : World) (e : Ending) (w' : World) : Prop :=
  ∃ x' c', e = .returned (.int .i64 p.2) ∧ BAt w' lo B r x' c' p.1 ∧ Ch w w' B r x ∧ Nr w x x'

set_option maxRecDepth 100000 in
set_option maxHeartbeats 2000000 in
theorem bnode_any (lo B r : Nat) (x : Option Addr) (c : Nat) (ns : List Nd) (nd : Nd) (w : World) (hat : BAt w lo B r x c ns) (hlo : lo ≤ w.heap.size) (hn : ns.length ≤ 100000) :
    Calls Try.prog 57 #[.pointer (some ⟨B, 0, none⟩), nv nd] w (BnPost lo B r x (addN ns nd) w) := by
  obtain ⟨k, n, a, b⟩ := nd
  obtain ⟨g1, g2, g3, g4, g5⟩ := hat.ne
  have hbx : Below w.heap.size w (w.alloc (.cells #[.int .i64 k, .int .i64 n, .int .i64 a, .int .i64 b] 41)) := (Below.refl _ _).alloc (Nat.le_refl _) _
  have hatx := hat.keep hbx
  have c0 := cell_at hatx.b 0
  have c1 := cell_at hatx.b 1
  have fz := free_of hatx.b
  simp at c0 c1
  show Calls Try.prog 57 #[.pointer (some ⟨B, 0, none⟩), .agg #[.int .i64 k, .int .i64 n, .int .i64 a, .int .i64 b]] w _
  by_cases hm : (⟨k, n, a, b⟩ : Nd) ∈ ns
  · have hadd : addN ns ⟨k, n, a, b⟩ = (ns, ns.idxOf (⟨k, n, a, b⟩ : Nd)) := if_pos hm
    rw [hadd]
    have l1 := look_yes (w.alloc (.cells #[.int .i64 k, .int .i64 n, .int .i64 a, .int .i64 b] 41)).drew r ns hatx.m k n a b hm
    have HE : Hid (∀ m, BnPost lo B r x (ns, ns.idxOf (⟨k, n, a, b⟩ : Nd)) w (.returned (.int .i64 (ns.idxOf (⟨k, n, a, b⟩ : Nd) : Nat))) ((w.alloc (.cells #[.int .i64 k, .int .i64 n, .int .i64 a, .int .i64 b] 41)).drewN m)) := Lib.hid (fun m => ⟨x, c, rfl, hat.keep (Below.draws hbx m), Ch.below _ _ _ (Below.draws hbx m), Nr.refl _ _⟩)
    generalize ns.idxOf (⟨k, n, a, b⟩ : Nd) = q at l1 HE ⊢
    clear hadd hm hbx hatx hat g1 g2 g3
    go_enter Try.func57, Try.ntmps57
    go_wp2_with fail
    go_region
    all_goals
      go_wp2_with fail
      go_ret
      first | exact HE.out 1 | exact HE.out 0
  · have hadd : addN ns ⟨k, n, a, b⟩ = (ns ++ [⟨k, n, a, b⟩], ns.length) := if_neg hm
    rw [hadd]
    have l1 := look_no (w.alloc (.cells #[.int .i64 k, .int .i64 n, .int .i64 a, .int .i64 b] 41)).drew r ns hatx.m k n a b hm
    obtain ⟨x', c', w2, hrun, q1, q2, q3, q4, q5, q6, q7⟩ := (hat.keep (Below.draws hbx 2)).push (by show lo ≤ (w.alloc _).heap.size; simp; omega) hn k n a b
    have hzz : ((w.alloc (.cells #[.int .i64 k, .int .i64 n, .int .i64 a, .int .i64 b] 41)).drewN 2).heap.size = w.heap.size + 1 := by
      show (w.alloc _).heap.size = _
      simp
    rw [hzz] at hrun
    clear hzz
    have HRUN := Lib.hid hrun
    have fz2 := q3
    have HQ4 := Lib.hid q4
    have hne0 : some w.heap.size ≠ rowOf x := fun e => by
      have := (hat.own.lt w.heap.size (by rw [rowOf_eq]; exact e.symm)).2
      omega
    have hw2 := (q7 w.heap.size (by show w.heap.size < (w.alloc _).heap.size; simp) hne0).trans (heap_new _ _)
    have y0 := cell_at hw2 0
    have y1 := cell_at hw2 1
    have y2 := cell_at hw2 2
    have y3 := cell_at hw2 3
    simp at y0 y1 y2 y3
    have hup : (Instr.mapUpdate 62 (.map (some r)) (.agg #[.int .i64 k, .int .i64 n, .int .i64 a, .int .i64 b]) (.int .i64 (ns.length : Nat))).run Try.prog ((w2.setCell ⟨B, 0, none⟩ (.slice x' (ns.length + 1) c')).drew) = .ok () (setO ((w2.setCell ⟨B, 0, none⟩ (.slice x' (ns.length + 1) c')).drew) r (nTab (ns ++ [⟨k, n, a, b⟩]))) := run_updN ((w2.setCell ⟨B, 0, none⟩ (.slice x' (ns.length + 1) c')).drew) r ns q4 ⟨k, n, a, b⟩ hm
    have HE : Hid (BnPost lo B r x (ns ++ [⟨k, n, a, b⟩], ns.length) w (.returned (.int .i64 ns.length)) (setO ((w2.setCell ⟨B, 0, none⟩ (.slice x' (ns.length + 1) c')).drew) r (nTab (ns ++ [⟨k, n, a, b⟩])))) := Lib.hid (by
      obtain ⟨q5a, q5b⟩ := q5 1 0
      have hch := (Ch.below B r x (Below.draws hbx 2)).trans (Nr.refl _ _) q5b
      exact ⟨x', c', rfl, q5a, hch, Nr.trans (Nr.refl _ _) (Below.draws hbx 2).size q6⟩)
    clear hrun q4 q5 q6 q7 hw2 hm
    clear hadd hbx hatx hat g1 g2 g3
    go_enter Try.func57, Try.ntmps57
    go_wp2_with fail
    go_region
    go_wp2_with fail
    go_region_law (refine step_append (by rfl) _ _ _ (by rfl) (by rfl) (by rfl) HRUN.out ?_)
    all_goals
      go_wp2_with fail
      go_region
    all_goals
      go_wp2_with fail
      go_ret
      exact HE.out
end Go.Proofs.Ytmbopdlmkbbbiaa
