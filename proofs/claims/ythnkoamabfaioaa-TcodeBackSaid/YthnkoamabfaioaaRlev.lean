/- What stands in memory while the document's own reader reads a level's Kids: how it grows, a level at a time. -/
import Derived.Test.YthnkoamabfaioaaRrd
import Derived.Test.YthnkoamabfaioaaLlev2
import Derived.Test.YthnkoamabfaioaaLerr
import Derived.Deep.RegionHeld3
namespace Go.Proofs.Ythnkoamabfaioaa
open Go.RowKit

/-- What was read: as the recursive reader says, in blocks from lo on, or the error lies in the reader's block. -/
def RvIs (R : Nat) (s : ByteArray) (r : Rl) (lo : Nat) (w' : World) (k' n' : Int) (x' : Option Addr) (ln c' : Nat) : Prop :=
  match r with
  | .no er => ∃ p' m', RrAt w' R s p' m' er
  | .ok k n F q l => k' = k ∧ n' = n ∧ ln = F.len ∧ SlIn w' (fun b => lo ≤ b ∧ b < w'.heap.size) F x' c' ∧ RrAt w' R s q (100 - l) 0
def RvPost (R : Nat) (s : ByteArray) (r : Rl) (w : World) (e : Ending) (w' : World) : Prop :=
  ∃ (k' n' : Int) (x' : Option Addr) (ln c' : Nat), e = .returned (.agg #[.int .i64 k', .int .i64 n', .slice x' ln c']) ∧ w.grownBy w' (some R) ∧ RvIs R s r w.heap.size w' k' n' x' ln c'
def RvAny (R : Nat) (s : ByteArray) (d : Nat) : Prop := ∀ (p l : Nat) (w : World), RrAt w R s p (100 - l) 0 → p ≤ s.size → l ≤ 100 → Calls Try.prog 80 #[.pointer (some ⟨R, 0, none⟩), .int .i64 (12 - d)] w (RvPost R s (rdL s d p l) w)

/-- The result's variable, as it was made. -/
def ZeroAt (w : World) (N : Nat) : Prop := w.heap[N]? = some (.cells #[.int .i64 0, .int .i64 0, .slice none 0 0] 33 (0, 0))
/-- What lies there behind the loop. -/
def LpEnd (w : World) (R : Nat) (s : ByteArray) (LB : Nat) (r : Rl) (k n : Int) (x : Option Addr) (ln c : Nat) (wr : World) : Prop :=
  ZeroAt wr w.heap.size ∧ wr.heap[LB]? = some (.cells #[.int .i64 k, .int .i64 n, .slice x ln c] 33 (0, 0)) ∧ w.grownBy wr (some R) ∧ RvIs R s r (w.heap.size + 1) wr k n x ln c ∧ w.heap.size < LB
theorem LpEnd.facts {w : World} {R : Nat} {s : ByteArray} {LB : Nat} {r : Rl} {k n : Int} {x : Option Addr} {ln c : Nat} {wr : World} (h : LpEnd w R s LB r k n x ln c wr) :
    wr.cell? ⟨w.heap.size, 0, none⟩ = some (.int .i64 0) ∧ wr.cell? ⟨w.heap.size, 1, none⟩ = some (.int .i64 0) ∧ wr.cell? ⟨w.heap.size, 2, none⟩ = some (.slice none 0 0) ∧ (∀ o, wr.frozen? ⟨w.heap.size, o, none⟩ = false) ∧
    wr.cell? ⟨LB, 0, none⟩ = some (.int .i64 k) ∧ wr.cell? ⟨LB, 1, none⟩ = some (.int .i64 n) ∧ wr.cell? ⟨LB, 2, none⟩ = some (.slice x ln c) := by
  obtain ⟨h0, h1, _⟩ := h
  exact ⟨cell_at h0 0, cell_at h0 1, cell_at h0 2, free_of h0, cell_at h1 0, cell_at h1 1, cell_at h1 2⟩
theorem RvIs.keep {R : Nat} {s : ByteArray} {r : Rl} {lo lo' : Nat} {w w' : World} {k' n' : Int} {x' : Option Addr} {ln c' : Nat} (h : RvIs R s r lo w k' n' x' ln c') (hz : w.heap.size ≤ w'.heap.size) (hR : w'.heap[R]? = w.heap[R]?) (hk : ∀ b, lo ≤ b → b < w.heap.size → w'.heap[b]? = w.heap[b]?) (hlo : lo' ≤ lo) : RvIs R s r lo' w' k' n' x' ln c' := by
  cases r with
  | no er =>
    obtain ⟨p', m', h1⟩ := h
    exact ⟨p', m', hR.trans h1⟩
  | ok k n F q l =>
    obtain ⟨h1, h2, h3, h4, h5⟩ := h
    exact ⟨h1, h2, h3, (h4.keep (fun b hb => hk b hb.1 hb.2)).weak (fun b hb => ⟨by omega, by omega⟩), hR.trans h5⟩
theorem rv_fin {w : World} {R : Nat} {s : ByteArray} {LB : Nat} {r : Rl} {k n : Int} {x : Option Addr} {ln c : Nat} {wr : World} (h : LpEnd w R s LB r k n x ln c wr) (hR : R < w.heap.size) :
    RvPost R s r w (.returned (.agg #[.int .i64 k, .int .i64 n, .slice x ln c])) (((wr.setCell ⟨w.heap.size, 0, none⟩ (.int .i64 k)).setCell ⟨w.heap.size, 1, none⟩ (.int .i64 n)).setCell ⟨w.heap.size, 2, none⟩ (.slice x ln c)) := by
  obtain ⟨h0, h1, h2, h3, h4⟩ := h
  have u0 := set3_only (w := wr) w.heap.size (.int .i64 k) (.int .i64 n) (.slice x ln c)
  refine ⟨k, n, x, ln, c, rfl, Only.past h2 u0 (Nat.le_refl _), h3.keep u0.size (Only.block u0 (by have := h2.size; omega) (by omega)) (fun b h5 h6 => Only.block u0 h6 (by omega)) (Nat.le_succ _)⟩

/-- What stands while the Kids are read: no error yet, and so many of them have been read; or an error. -/
def LpR (w : World) (R : Nat) (s : ByteArray) (LB : Nat) (r : Rl) (k d c j E : Nat) (v : Value) (wr : World) : Prop :=
  ∃ (xs : List Value), ZeroAt wr w.heap.size ∧ wr.heap[LB]? = some (.cells #[.int .i64 k, .int .i64 0, v] 33 (0, 0)) ∧ wr.ownsRow (LB + 1) 33 3 v j xs ∧ w.grownBy wr (some R) ∧ w.heap.size < LB ∧
  ((E ≠ 0 ∧ r = .no E ∧ ∃ p' m', RrAt wr R s p' m' E) ∨
   (E = 0 ∧ ∃ (G : Fo) (p' l' : Nat), G.len = j ∧ r = ((rows (rdL s d) (c - j) p' l').prep G).wrap k ∧ RepP wr (fun b => LB < b ∧ b < wr.heap.size ∧ some b ≠ v.ownBlock) G xs ∧ RrAt wr R s p' (100 - l') 0 ∧ p' ≤ s.size ∧ l' ≤ 100))
theorem LpR.facts {w : World} {R : Nat} {s : ByteArray} {LB : Nat} {r : Rl} {k d c j E : Nat} {v : Value} {wr : World} (h : LpR w R s LB r k d c j E v wr) :
    (∃ p' m', RrAt wr R s p' m' E) ∧ wr.cell? ⟨LB, 2, none⟩ = some v ∧ (∀ o, wr.frozen? ⟨LB, o, none⟩ = false) ∧ LB < wr.heap.size := by
  obtain ⟨xs, h0, h1, h2, h3, h4, h5⟩ := h
  refine ⟨?_, cell_at h1 2, free_of h1, lt_of_block h1⟩
  rcases h5 with ⟨_, _, h⟩ | ⟨rfl, _, p', l', _, _, _, h, _⟩
  · exact h
  · exact ⟨p', _, h⟩
/-- The loop ends by an error. -/
theorem LpR.err {w : World} {R : Nat} {s : ByteArray} {LB : Nat} {r : Rl} {k d c j E : Nat} {v : Value} {wr : World} (h : LpR w R s LB r k d c j E v wr) (hE : E ≠ 0) : ∃ x ln cc, v = .slice x ln cc ∧ LpEnd w R s LB r k 0 x ln cc wr := by
  obtain ⟨xs, h0, h1, h2, h3, h4, h5⟩ := h
  rcases h5 with ⟨_, rfl, h⟩ | ⟨he, _⟩
  · rcases h2.2 with ⟨rfl, _⟩ | ⟨g, cap, cur, rfl, _⟩
    · exact ⟨none, 0, 0, rfl, h0, h1, h3, h, h4⟩
    · exact ⟨_, _, _, rfl, h0, h1, h3, h, h4⟩
  · exact absurd he hE
/-- The loop ends when all have been read. -/
theorem LpR.all {w : World} {R : Nat} {s : ByteArray} {LB : Nat} {r : Rl} {k d c j : Nat} {v : Value} {wr : World} (h : LpR w R s LB r k d c j 0 v wr) (hj : c ≤ j) : ∃ x ln cc, v = .slice x ln cc ∧ LpEnd w R s LB r k 0 x ln cc wr := by
  obtain ⟨xs, h0, h1, h2, h3, h4, h5⟩ := h
  rcases h5 with ⟨he, _⟩ | ⟨_, G, p', l', g1, g2, g3, g4, _⟩
  · exact absurd rfl he
  · rw [show c - j = 0 by omega] at g2
    simp only [rows, Rs.prep, Fo.app_nil, Rs.wrap] at g2
    obtain ⟨x, cc, hv, hs⟩ := RepP.slice (P := fun b => LB < b ∧ b < wr.heap.size) h2 (g3.keep (w' := wr) (fun _ _ => rfl) (fun b hb => ⟨hb.1, hb.2.1⟩)) g1 (fun g hg => by have := h2.lt g hg; omega)
    subst hv g2
    exact ⟨x, G.len, cc, rfl, h0, h1, h3, ⟨rfl, rfl, rfl, hs.weak (fun b hb => ⟨by omega, hb.2⟩), g4⟩, h4⟩
/-- One level more has been read, or an error was met. -/
theorem LpR.next {w : World} {R : Nat} {s : ByteArray} {LB : Nat} {r : Rl} {k d c j : Nat} {v v' : Value} {wr w2 w3 : World} {xs : List Value} {G : Fo} {p' l' : Nat} {k' n' : Int} {x' : Option Addr} {ln c' : Nat} (hjc : j < c) (hR : R < w.heap.size)
    (h0 : ZeroAt wr w.heap.size) (h1 : wr.heap[LB]? = some (.cells #[.int .i64 k, .int .i64 0, v] 33 (0, 0))) (h2 : wr.ownsRow (LB + 1) 33 3 v j xs) (h3 : w.grownBy wr (some R)) (h4 : w.heap.size < LB) (g1 : G.len = j) (g2 : r = ((rows (rdL s d) (c - j) p' l').prep G).wrap k)
    (g3 : RepP wr (fun b => LB < b ∧ b < wr.heap.size ∧ some b ≠ v.ownBlock) G xs) (g5 : p' ≤ s.size) (g6 : l' ≤ 100)
    (q1 : wr.grownBy w2 (some R)) (q2 : RvIs R s (rdL s d p' l') wr.heap.size w2 k' n' x' ln c')
    (a1 : w3.ownsRow (LB + 1) 33 3 v' (j + 1) (xs ++ [.int .i64 k', .int .i64 n', .slice x' ln c'])) (a2 : (w2.alloc (.cells #[.int .i64 k', .int .i64 n', .slice x' ln c'] 33)).grownBy w3 v.ownBlock) (a3 : v'.ownBlock = v.ownBlock ∨ v'.ownBlock = some (w2.heap.size + 1)) :
    ∃ E, LpR w R s LB r k d c (j + 1) E v' (w3.setCell ⟨LB, 2, none⟩ v') := by
  have hLBlt := lt_of_block h1
  have z1 := q1.size
  have z2 := a2.size
  rw [World.size_alloc] at z2
  have hvb : ∀ g, v.ownBlock = some g → LB + 1 ≤ g ∧ g < wr.heap.size := fun g hg => h2.lt g hg
  -- a block that is as it was
  have same : ∀ b, b < wr.heap.size → b ≠ R → b ≠ LB → some b ≠ v.ownBlock → (w3.setCell ⟨LB, 2, none⟩ v').heap[b]? = wr.heap[b]? := fun b hb h1 h2 h3 => by
    rw [Below.heap_setCell _ _ _ _ h2, a2.block b (by rw [World.size_alloc]; omega) h3, heap_old _ _ (by omega), Only.block q1 hb h1]
  have same2 : ∀ b, b < w2.heap.size → b ≠ LB → some b ≠ v.ownBlock → (w3.setCell ⟨LB, 2, none⟩ v').heap[b]? = w2.heap[b]? := fun b hb h2 h3 => by
    rw [Below.heap_setCell _ _ _ _ h2, a2.block b (by rw [World.size_alloc]; omega) h3, heap_old _ _ (by omega)]
  have nv : ∀ b, b ≤ LB → some b ≠ v.ownBlock := fun b hb e => by have := hvb b e.symm; omega
  have hLB3 : w3.heap[LB]? = some (.cells #[.int .i64 k, .int .i64 0, v] 33 (0, 0)) := by
    rw [a2.block LB (by rw [World.size_alloc]; omega) (nv LB (Nat.le_refl _)), heap_old _ _ (by omega), Only.block q1 hLBlt (by omega)]; exact h1
  have hLB4 : (w3.setCell ⟨LB, 2, none⟩ v').heap[LB]? = some (.cells #[.int .i64 k, .int .i64 0, v'] 33 (0, 0)) := by
    simp only [World.setCell, Array.getElem?_modify, if_true, hLB3]; rfl
  have own4 : (w3.setCell ⟨LB, 2, none⟩ v').ownsRow (LB + 1) 33 3 v' (j + 1) (xs ++ [.int .i64 k', .int .i64 n', .slice x' ln c']) := ownsRow_setCell_below a1 (Nat.lt_succ_self _) _
  have z4 : (w3.setCell ⟨LB, 2, none⟩ v').heap.size = w3.heap.size := by simp
  have hg4 : w.grownBy (w3.setCell ⟨LB, 2, none⟩ v') (some R) := by
    refine ⟨?_, ?_, ?_, by have := h3.size; omega, fun i hi hne => ?_⟩
    · exact (a2.os.trans q1.os).trans h3.os
    · exact (a2.tape.trans q1.tape).trans h3.tape
    · exact (a2.output.trans q1.output).trans h3.output
    · rw [same i (by have := h3.size; omega) (fun e => hne (by rw [e])) (by omega) (nv i (by omega))]; exact h3.block i hi hne
  have hZ : ZeroAt (w3.setCell ⟨LB, 2, none⟩ v') w.heap.size := (same _ (lt_of_block h0) (by omega) (by omega) (nv _ (by omega))).trans h0
  have hR4 : (w3.setCell ⟨LB, 2, none⟩ v').heap[R]? = w2.heap[R]? := same2 R (by have := h3.size; omega) (by omega) (nv R (by omega))
  have hcj : c - j = (c - (j + 1)) + 1 := by omega
  have hnew : ∀ b, b < w2.heap.size → some b ≠ v.ownBlock → some b ≠ v'.ownBlock := fun b hb hn => by
    rcases a3 with a3 | a3
    · rw [a3]; exact hn
    · rw [a3]; intro e; injection e with e; omega
  have ro := rdL_once s d p' l' g5
  cases hrd : rdL s d p' l' with
  | no er =>
    rw [hrd] at q2
    obtain ⟨p2, m2, q2⟩ := q2
    refine ⟨er, _, hZ, hLB4, own4, hg4, h4, .inl ⟨rdL_err s d p' l' er hrd, ?_, p2, m2, hR4.trans q2⟩⟩
    rw [g2, hcj, rows_no hrd]; rfl
  | ok k1 n1 F q l2 =>
    rw [hrd] at q2 ro
    obtain ⟨rfl, rfl, rfl, q5, q6⟩ := q2
    refine ⟨0, _, hZ, hLB4, own4, hg4, h4, .inr ⟨rfl, G.app (.cons k1 n1 F .nil), q, l2, by rw [Fo.app_len, g1]; rfl, ?_, ?_, hR4.trans q6, ro.2.2.1.2.1, by have := ro.2.1; omega⟩⟩
    · rw [g2, hcj, rows_ok hrd, Rs.prep_prep]
    · refine RepP.snoc ?_ (g3.keep (fun b hb => same b hb.2.1 (by have := h3.size; omega) (by omega) hb.2.2) (fun b hb => ⟨hb.1, by omega, hnew b (by omega) hb.2.2⟩))
      refine (q5.keep (fun b hb => same2 b hb.2 (by omega) (fun e => by have := hvb b e.symm; omega))).weak (fun b hb => ⟨by omega, by omega, hnew b hb.2 (fun e => by have := hvb b e.symm; omega)⟩)
end Go.Proofs.Ythnkoamabfaioaa
