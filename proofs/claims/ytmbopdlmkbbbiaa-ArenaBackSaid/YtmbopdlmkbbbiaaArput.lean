/- The contract of the document's own put: for each kid in order, and then for the level itself, its node is put. No condition but that all lies in memory, and no level has more than two kids. -/
import Derived.Test.YtmbopdlmkbbbiaaArr
import Derived.Test.YtmbopdlmkbbbiaaAblevel
namespace Go.Proofs.Ytmbopdlmkbbbiaa
open Go.RowKit

/-- What putting answers. -/
def RpPost (base : Nat) (x : Option Addr) (p : List Nd × Nat) (w : World) (e : Ending) (w' : World) : Prop :=
  ∃ x' c', e = .returned (.tuple #[.agg #[.slice x' p.1.length c'], .int .i64 p.2]) ∧ NOwn w' base (.slice x' p.1.length c') p.1 ∧ w.grownBy w' (rowOf x) ∧ Nr w x x'
theorem idx_first {ns : List Nd} {nd : Nd} {q : Nat} (hno : ∀ i, i < q → ns[i]? ≠ some nd) (h : ns[q]? = some nd) : nd ∈ ns ∧ ns.idxOf nd = q := by
  induction ns generalizing q with
  | nil => simp at h
  | cons y r ih =>
    cases q with
    | zero =>
      simp at h
      subst h
      exact ⟨List.mem_cons_self, by rw [nd_idx, if_pos rfl]⟩
    | succ q =>
      have h0 : y ≠ nd := fun e => hno 0 (by omega) (by rw [e]; rfl)
      obtain ⟨h1, h2⟩ := ih (q := q) (fun i hi => by have := hno (i + 1) (by omega); simpa using this) (by simpa using h)
      exact ⟨List.mem_cons_of_mem _ h1, by rw [nd_idx, if_neg h0, h2]⟩
/-- put's variables: the arena, the level, the result, and the node. -/
structure PvAt (base N : Nat) (k n : Int) (F : Fo) (xa : Option Addr) (ca : Nat) (ns : List Nd) (x : Option Addr) (c : Nat) (p0 p1 : Int) (W : World) : Prop where
  a : W.heap[N]? = some (.cells #[.slice x ns.length c] 26 (0, 0))
  l : W.heap[N + 1]? = some (.cells #[.int .i64 k, .int .i64 n, .slice xa F.len ca] 30 (0, 0))
  r : W.heap[N + 1 + 1]? = some (.cells #[.slice none 0 0] 26 (0, 0))
  nd : W.heap[N + 1 + 1 + 1]? = some (.cells #[.int .i64 k, .int .i64 n, .int .i64 p0, .int .i64 p1] 41 (0, 0))
  own : NOwn W base (.slice x ns.length c) ns
  no : some (N + 1 + 1 + 1) ≠ rowOf x
section
variable {base N : Nat} {k n : Int} {F : Fo} {xa : Option Addr} {ca : Nat} {ns : List Nd} {x : Option Addr} {c : Nat} {p0 p1 : Int} {W W' : World}
theorem PvAt.facts (h : PvAt base N k n F xa ca ns x c p0 p1 W) : W.cell? ⟨N, 0, none⟩ = some (.slice x ns.length c) ∧ W.cell? ⟨N + 1, 0, none⟩ = some (.int .i64 k) ∧ W.cell? ⟨N + 1, 1, none⟩ = some (.int .i64 n) ∧ W.cell? ⟨N + 1, 2, none⟩ = some (.slice xa F.len ca) ∧ W.cell? ⟨N + 1 + 1, 0, none⟩ = some (.slice none 0 0) ∧
    W.cell? ⟨N + 1 + 1 + 1, 0, none⟩ = some (.int .i64 k) ∧ W.cell? ⟨N + 1 + 1 + 1, 1, none⟩ = some (.int .i64 n) ∧ W.cell? ⟨N + 1 + 1 + 1, 2, none⟩ = some (.int .i64 p0) ∧ W.cell? ⟨N + 1 + 1 + 1, 3, none⟩ = some (.int .i64 p1) ∧ N + 1 + 1 + 1 < W.heap.size :=
  ⟨cell_at h.a 0, cell_at h.l 0, cell_at h.l 1, cell_at h.l 2, cell_at h.r 0, cell_at h.nd 0, cell_at h.nd 1, cell_at h.nd 2, cell_at h.nd 3, lt_of_block h.nd⟩
theorem PvAt.free (h : PvAt base N k n F xa ca ns x c p0 p1 W) : (∀ o, W.frozen? ⟨N, o, none⟩ = false) ∧ (∀ o, W.frozen? ⟨N + 1 + 1, o, none⟩ = false) ∧ (∀ o, W.frozen? ⟨N + 1 + 1 + 1, o, none⟩ = false) := ⟨free_of h.a, free_of h.r, free_of h.nd⟩
theorem PvAt.draws (h : PvAt base N k n F xa ca ns x c p0 p1 W) (m : Nat) : PvAt base N k n F xa ca ns x c p0 p1 (W.drewN m) := ⟨h.a, h.l, h.r, h.nd, h.own, h.no⟩
/-- The row is none of the variables. -/
theorem PvAt.apart (h : PvAt base N k n F xa ca ns x c p0 p1 W) : some N ≠ rowOf x ∧ some (N + 1) ≠ rowOf x ∧ some (N + 1 + 1) ≠ rowOf x := by
  have key : ∀ (q : Nat) (cs : Array Value) (t : TypeId), W.heap[q]? = some (.cells cs t (0, 0)) → t ≠ 41 → some q ≠ rowOf x := by
    intro q cs t hq h1 e
    rcases h.own.2 with ⟨hv, _⟩ | ⟨g, cap, cur, hv, _, hh, _⟩
    · injection hv with hv _ _; subst hv; cases e
    · injection hv with hv _ _; subst hv
      injection e with e
      subst e
      have := hq.symm.trans hh
      simp at this
      exact h1 this.2
  exact ⟨key _ _ _ h.a (by decide), key _ _ _ h.l (by decide), key _ _ _ h.r (by decide)⟩
/-- Behind a call that has put a kid: the variables are as they were, and what the two stores leave, in either order. -/
theorem PvAt.after (h : PvAt base N k n F xa ca ns x c p0 p1 W) {P : List Nd × Nat} {w2 : World} {x' : Option Addr} {c' : Nat} (h1 : NOwn w2 base (.slice x' P.1.length c') P.1) (h2 : W.grownBy w2 (rowOf x)) (h3 : Nr W x x') (hbase : N + 1 + 1 + 1 < W.heap.size) :
    (w2.heap[N]? = some (.cells #[.slice x ns.length c] 26 (0, 0)) ∧ w2.heap[N + 1]? = some (.cells #[.int .i64 k, .int .i64 n, .slice xa F.len ca] 30 (0, 0)) ∧ w2.heap[N + 1 + 1]? = some (.cells #[.slice none 0 0] 26 (0, 0)) ∧ w2.heap[N + 1 + 1 + 1]? = some (.cells #[.int .i64 k, .int .i64 n, .int .i64 p0, .int .i64 p1] 41 (0, 0))) ∧
    ∀ (i : Nat) (q p0' p1' : Int), (#[.int .i64 k, .int .i64 n, .int .i64 p0, .int .i64 p1] : Array Value).setIfInBounds i (.int .i64 q) = #[.int .i64 k, .int .i64 n, .int .i64 p0', .int .i64 p1'] →
      PvAt base N k n F xa ca P.1 x' c' p0' p1' ((w2.setCell ⟨N, 0, none⟩ (.slice x' P.1.length c')).setCell ⟨N + 1 + 1 + 1, i, none⟩ (.int .i64 q)) ∧
      PvAt base N k n F xa ca P.1 x' c' p0' p1' ((w2.setCell ⟨N + 1 + 1 + 1, i, none⟩ (.int .i64 q)).setCell ⟨N, 0, none⟩ (.slice x' P.1.length c')) := by
  obtain ⟨a1, a2, a3⟩ := h.apart
  have b0 := (h2.block N (by omega) a1).trans h.a
  have b1 := (h2.block (N + 1) (by omega) a2).trans h.l
  have b2 := (h2.block (N + 1 + 1) (by omega) a3).trans h.r
  have b3 := (h2.block (N + 1 + 1 + 1) hbase h.no).trans h.nd
  have hno : some (N + 1 + 1 + 1) ≠ rowOf x' := by
    rcases h3 with h3 | h3
    · rw [h3]; exact h.no
    · exact fun e => by have := h3 _ e.symm; omega
  have hn0 : some N ≠ rowOf x' := by
    rcases h3 with h3 | h3
    · rw [h3]; exact a1
    · exact fun e => by have := h3 _ e.symm; omega
  refine ⟨⟨b0, b1, b2, b3⟩, fun i q p0' p1' hX => ?_⟩
  have e0 := heap_setCell_same w2 N 0 _ _ (.slice x' P.1.length c') b0
  have e3 := heap_setCell_same w2 (N + 1 + 1 + 1) i _ _ (.int .i64 q) b3
  rw [hX] at e3
  have n1 : N ≠ N + 1 + 1 + 1 := by omega
  have n2 : N + 1 ≠ N + 1 + 1 + 1 := by omega
  have n3 : N + 1 + 1 ≠ N + 1 + 1 + 1 := by omega
  have n4 : N + 1 ≠ N := by omega
  have n5 : N + 1 + 1 ≠ N := by omega
  have f3 := heap_setCell_same (w2.setCell ⟨N, 0, none⟩ (.slice x' P.1.length c')) (N + 1 + 1 + 1) i _ _ (.int .i64 q) ((Below.heap_setCell _ _ _ _ (Ne.symm n1)).trans b3)
  rw [hX] at f3
  have f0 := heap_setCell_same (w2.setCell ⟨N + 1 + 1 + 1, i, none⟩ (.int .i64 q)) N 0 _ _ (.slice x' P.1.length c') ((Below.heap_setCell _ _ _ _ n1).trans b0)
  have o1 : NOwn (w2.setCell ⟨N, 0, none⟩ (.slice x' P.1.length c')) base (.slice x' P.1.length c') P.1 := h1.kept (Only.set w2 N 0 _) (by rw [rowOf_eq]; exact .inr (Ne.symm hn0))
  have o2 : NOwn (w2.setCell ⟨N + 1 + 1 + 1, i, none⟩ (.int .i64 q)) base (.slice x' P.1.length c') P.1 := h1.kept (Only.set w2 (N + 1 + 1 + 1) i _) (by rw [rowOf_eq]; exact .inr (Ne.symm hno))
  refine ⟨⟨(Below.heap_setCell _ _ _ _ n1).trans e0, (Below.heap_setCell _ _ _ _ n2).trans ((Below.heap_setCell _ _ _ _ n4).trans b1), (Below.heap_setCell _ _ _ _ n3).trans ((Below.heap_setCell _ _ _ _ n5).trans b2), f3, ?_, hno⟩,
    ⟨f0, (Below.heap_setCell _ _ _ _ n4).trans ((Below.heap_setCell _ _ _ _ n2).trans b1), (Below.heap_setCell _ _ _ _ n5).trans ((Below.heap_setCell _ _ _ _ n3).trans b2), (Below.heap_setCell _ _ _ _ (Ne.symm n1)).trans e3, ?_, hno⟩⟩
  · exact o1.kept (Only.set _ (N + 1 + 1 + 1) i _) (by rw [rowOf_eq]; exact .inr (Ne.symm hno))
  · exact o2.kept (Only.set _ N 0 _) (by rw [rowOf_eq]; exact .inr (Ne.symm hn0))
end
theorem grow_trans {w w1 w2 : World} {x x1 : Option Addr} (h : w.grownBy w1 (rowOf x)) (hn : Nr w x x1) (k : w1.grownBy w2 (rowOf x1)) : w.grownBy w2 (rowOf x) :=
  ⟨k.os.trans h.os, k.tape.trans h.tape, k.output.trans h.output, Nat.le_trans h.size k.size, fun i hi hne => (k.block i (Nat.lt_of_lt_of_le hi h.size) (by
    rcases hn with hn | hn
    · rw [hn]; exact hne
    · intro e
      have := hn i e.symm
      omega)).trans (h.block i hi hne)⟩
theorem grow_after {w w1 w2 : World} {row : Option Nat} (h : w.grownBy w1 row) (k : w1.grownBy w2 row) : w.grownBy w2 row :=
  ⟨k.os.trans h.os, k.tape.trans h.tape, k.output.trans h.output, Nat.le_trans h.size k.size, fun i hi hne => (k.block i (Nat.lt_of_lt_of_le hi h.size) hne).trans (h.block i hi hne)⟩
theorem grow_set {w w1 : World} {row : Option Nat} (h : w.grownBy w1 row) {q : Nat} (hq : w.heap.size ≤ q) (i : Nat) (u : Value) : w.grownBy (w1.setCell ⟨q, i, none⟩ u) row :=
  ⟨h.os, h.tape, h.output, by simpa using h.size, fun k h0 h1 => (Below.heap_setCell _ _ _ _ (Nat.ne_of_lt (Nat.lt_of_lt_of_le h0 hq))).trans (h.block k h0 h1)⟩
theorem grow_below {w w1 : World} (row : Option Nat) (h : Below w.heap.size w w1) : w.grownBy w1 row := ⟨h.os, h.tape, h.output, h.size, fun i hi _ => h.block i hi⟩
theorem grow_draws {w w1 : World} {row : Option Nat} (h : w.grownBy w1 row) (m : Nat) : w.grownBy (w1.drewN m) row := ⟨h.os, h.tape, h.output, h.size, h.block⟩

/-- The variables, as they are made. -/
theorem PvAt.start {w : World} {base : Nat} {x : Option Addr} {c : Nat} {ns : List Nd} (hown : NOwn w base (.slice x ns.length c) ns) (k n : Int) (F : Fo) (xa : Option Addr) (ca : Nat) :
    PvAt base w.heap.size k n F xa ca ns x c 0 0 ((((w.alloc (.cells #[.slice x ns.length c] 26)).alloc (.cells #[.int .i64 k, .int .i64 n, .slice xa F.len ca] 30)).alloc (.cells #[.slice none 0 0] 26)).alloc (.cells #[.int .i64 k, .int .i64 n, .int .i64 0, .int .i64 0] 41)) ∧
    Below w.heap.size w ((((w.alloc (.cells #[.slice x ns.length c] 26)).alloc (.cells #[.int .i64 k, .int .i64 n, .slice xa F.len ca] 30)).alloc (.cells #[.slice none 0 0] 26)).alloc (.cells #[.int .i64 k, .int .i64 n, .int .i64 0, .int .i64 0] 41)) := by
  have hb0 : Below w.heap.size w ((((w.alloc (.cells #[.slice x ns.length c] 26)).alloc (.cells #[.int .i64 k, .int .i64 n, .slice xa F.len ca] 30)).alloc (.cells #[.slice none 0 0] 26)).alloc (.cells #[.int .i64 k, .int .i64 n, .int .i64 0, .int .i64 0] 41)) :=
    ((((Below.refl _ _).alloc (Nat.le_refl _) _).alloc (by simp) _).alloc (by simp; omega) _).alloc (by simp; omega) _
  refine ⟨⟨?_, ?_, ?_, ?_, ?_, ?_⟩, hb0⟩
  · exact (heap_old _ _ (by simp; omega)).trans ((heap_old _ _ (by simp; omega)).trans ((heap_old _ _ (by simp)).trans (heap_new _ _)))
  · exact (heap_old _ _ (by simp)).trans ((heap_old _ _ (by simp)).trans (heap_second _ _ _))
  · refine (heap_old _ _ (by simp)).trans ?_
    have := heap_new ((w.alloc (.cells #[.slice x ns.length c] 26)).alloc (.cells #[.int .i64 k, .int .i64 n, .slice xa F.len ca] 30)) (.cells #[.slice none 0 0] 26)
    simpa using this
  · have := heap_new (((w.alloc (.cells #[.slice x ns.length c] 26)).alloc (.cells #[.int .i64 k, .int .i64 n, .slice xa F.len ca] 30)).alloc (.cells #[.slice none 0 0] 26)) (.cells #[.int .i64 k, .int .i64 n, .int .i64 0, .int .i64 0] 41)
    simpa using this
  · exact hown.kept (Only.below w.heap.size hb0) (by
      cases hv : (Value.slice x ns.length c).ownBlock with
      | none => exact .inl rfl
      | some g => exact .inr (fun e => by have := (hown.lt g hv).2; injection e; omega))
  · intro e
    have := (hown.lt (w.heap.size + 1 + 1 + 1) (by rw [rowOf_eq]; exact e.symm)).2
    omega

theorem SlIn.drew {w : World} {P : Nat → Prop} {f : Fo} {a : Option Addr} {cap : Nat} (h : SlIn w P f a cap) : SlIn w.drew P f a cap := SlIn.keep (w := w) (w' := w.drew) (fun _ _ => rfl) h
/-- What the search needs of the variables. -/
structure PwAt (w : World) (base : Nat) (k n : Int) (x0 : Option Addr) (ns : List Nd) (x : Option Addr) (c : Nat) (p0 p1 : Int) (W : World) : Prop where
  a : W.heap[w.heap.size]? = some (.cells #[.slice x ns.length c] 26 (0, 0))
  r : W.heap[w.heap.size + 1 + 1]? = some (.cells #[.slice none 0 0] 26 (0, 0))
  nd : W.heap[w.heap.size + 1 + 1 + 1]? = some (.cells #[.int .i64 k, .int .i64 n, .int .i64 p0, .int .i64 p1] 41 (0, 0))
  own : NOwn W base (.slice x ns.length c) ns
  apart : some w.heap.size ≠ rowOf x ∧ some (w.heap.size + 1 + 1) ≠ rowOf x ∧ some (w.heap.size + 1 + 1 + 1) ≠ rowOf x
  g : w.grownBy W (rowOf x0)
  nr : Nr w x0 x
section
variable {w : World} {base : Nat} {k n : Int} {x0 : Option Addr} {F : Fo} {xa : Option Addr} {ca : Nat} {ns : List Nd} {x : Option Addr} {c : Nat} {p0 p1 : Int} {W : World}
theorem PvAt.weak (h : PvAt base w.heap.size k n F xa ca ns x c p0 p1 W) (g : w.grownBy W (rowOf x0)) (nr : Nr w x0 x) : PwAt w base k n x0 ns x c p0 p1 W := ⟨h.a, h.r, h.nd, h.own, ⟨h.apart.1, h.apart.2.2, h.no⟩, g, nr⟩
theorem PwAt.facts (h : PwAt w base k n x0 ns x c p0 p1 W) : W.cell? ⟨w.heap.size, 0, none⟩ = some (.slice x ns.length c) ∧ W.cell? ⟨w.heap.size + 1 + 1, 0, none⟩ = some (.slice none 0 0) ∧
    W.cell? ⟨w.heap.size + 1 + 1 + 1, 0, none⟩ = some (.int .i64 k) ∧ W.cell? ⟨w.heap.size + 1 + 1 + 1, 1, none⟩ = some (.int .i64 n) ∧ W.cell? ⟨w.heap.size + 1 + 1 + 1, 2, none⟩ = some (.int .i64 p0) ∧ W.cell? ⟨w.heap.size + 1 + 1 + 1, 3, none⟩ = some (.int .i64 p1) ∧ w.heap.size + 1 + 1 + 1 < W.heap.size ∧
    (∀ o, W.frozen? ⟨w.heap.size, o, none⟩ = false) ∧ (∀ o, W.frozen? ⟨w.heap.size + 1 + 1, o, none⟩ = false) :=
  ⟨cell_at h.a 0, cell_at h.r 0, cell_at h.nd 0, cell_at h.nd 1, cell_at h.nd 2, cell_at h.nd 3, lt_of_block h.nd, free_of h.a, free_of h.r⟩
theorem PwAt.draws (h : PwAt w base k n x0 ns x c p0 p1 W) (m : Nat) : PwAt w base k n x0 ns x c p0 p1 (W.drewN m) := ⟨h.a, h.r, h.nd, h.own, h.apart, grow_draws h.g m, h.nr⟩
/-- The node is put behind the others. -/
theorem PwAt.push (h : PwAt w base k n x0 ns x c p0 p1 W) (hbase : base ≤ w.heap.size) (hn : ns.length ≤ 100000) :
    ∃ x' c' w2, (Builtin.append_ #[24, 24] 24 #[.slice x ns.length c, .slice (some ⟨W.heap.size, 0, none⟩) 1 1]).run Try.prog (W.alloc (.cells #[.int .i64 k, .int .i64 n, .int .i64 p0, .int .i64 p1] 41)) = .ok (.slice x' (ns.length + 1) c') w2 ∧
      w2.cell? ⟨w.heap.size, 0, none⟩ = some (.slice x ns.length c) ∧ (∀ o, w2.frozen? ⟨w.heap.size, o, none⟩ = false) ∧ w2.cell? ⟨w.heap.size + 1 + 1, 0, none⟩ = some (.slice none 0 0) ∧ (∀ o, w2.frozen? ⟨w.heap.size + 1 + 1, o, none⟩ = false) ∧ w.heap.size + 1 + 1 < w2.heap.size ∧
      ∀ m, RpPost base x0 (ns ++ [⟨k, n, p0, p1⟩], ns.length) w (.returned (.tuple #[.agg #[.slice x' (ns.length + 1) c'], .int .i64 ns.length])) (((w2.setCell ⟨w.heap.size, 0, none⟩ (.slice x' (ns.length + 1) c')).drewN m).setCell ⟨w.heap.size + 1 + 1, 0, none⟩ (.slice x' (ns.length + 1) c')) := by
  have hlt := lt_of_block h.nd
  have hcells : ∀ j u, (ncs [(⟨k, n, p0, p1⟩ : Nd)])[j]? = some u → (W.alloc (.cells #[.int .i64 k, .int .i64 n, .int .i64 p0, .int .i64 p1] 41)).cell? ((⟨W.heap.size, 0, none⟩ : Addr).add j) = some u := by
    intro j u hu
    rw [add_none, Nat.zero_add, cell_at (heap_new _ _)]
    match j with
    | 0 => simpa [ncs] using hu
    | 1 => simpa [ncs] using hu
    | 2 => simpa [ncs] using hu
    | 3 => simpa [ncs] using hu
    | j + 4 => simp [ncs] at hu
  have howx : NOwn (W.alloc (.cells #[.int .i64 k, .int .i64 n, .int .i64 p0, .int .i64 p1] 41)) base (.slice x ns.length c) ns := World.ownsRow.alloc h.own _
  obtain ⟨v', w2, hrun, h1, h2, h3⟩ := howx.append 24 (c := 1) hcells (by simp; omega) (by simp; omega)
  have hl : (ns ++ [(⟨k, n, p0, p1⟩ : Nd)]).length = ns.length + 1 := by simp
  obtain ⟨x', c', rfl⟩ := h1.form
  rw [rowOf_eq] at h2
  rw [rowOf_eq, rowOf_eq] at h3
  have hold : ∀ q, q < W.heap.size → some q ≠ rowOf x → w2.heap[q]? = W.heap[q]? := fun q hq hne => (h2.block q (by simp; omega) hne).trans (heap_old _ _ hq)
  have b0 := (hold w.heap.size (by omega) h.apart.1).trans h.a
  have b2 := (hold (w.heap.size + 1 + 1) (by omega) h.apart.2.1).trans h.r
  have hz2 : W.heap.size + 1 ≤ w2.heap.size := by have := h2.size; simpa using this
  have hnr : Nr W x x' := by
    rcases h3 with h3 | h3
    · exact .inl h3
    · exact .inr (fun q hq => by rw [h3] at hq; injection hq with hq; simp at hq; omega)
  have hne' : some w.heap.size ≠ rowOf x' ∧ some (w.heap.size + 1 + 1) ≠ rowOf x' := by
    rcases hnr with h' | h'
    · rw [h']; exact ⟨h.apart.1, h.apart.2.1⟩
    · exact ⟨fun e => by have := h' _ e.symm; omega, fun e => by have := h' _ e.symm; omega⟩
  refine ⟨x', c', w2, by rw [← hl]; exact hrun, cell_at b0 0, free_of b0, cell_at b2 0, free_of b2, by omega, fun m => ⟨x', c', by rw [hl], ?_, ?_, h.nr.trans h.g.size hnr⟩⟩
  · have o1 : NOwn (w2.setCell ⟨w.heap.size, 0, none⟩ (.slice x' (ns.length + 1) c')) base (.slice x' (ns ++ [(⟨k, n, p0, p1⟩ : Nd)]).length c') (ns ++ [⟨k, n, p0, p1⟩]) := h1.kept (Only.set w2 w.heap.size 0 _) (by rw [rowOf_eq]; exact .inr (Ne.symm hne'.1))
    exact NOwn.kept (w := (w2.setCell ⟨w.heap.size, 0, none⟩ (.slice x' (ns.length + 1) c')).drewN m) o1 (Only.set _ (w.heap.size + 1 + 1) 0 _) (by rw [rowOf_eq]; exact .inr (Ne.symm hne'.2))
  · have g1 : w.grownBy w2 (rowOf x0) := grow_trans h.g h.nr ⟨h2.os, h2.tape, h2.output, by omega, fun q hq hne => hold q hq hne⟩
    exact grow_set (grow_draws (grow_set g1 (Nat.le_refl _) 0 _) m) (by omega) 0 _
end

/-- What the search starts from. -/
def TailOk (w : World) (base : Nat) (k n : Int) (x0 : Option Addr) (PL : List Nd × Nat) (W : World) : Prop :=
  ∃ ns x c p0 p1, PL = addN ns ⟨k, n, p0, p1⟩ ∧ ns.length ≤ 100000 ∧ PwAt w base k n x0 ns x c p0 p1 W
/-- Behind the first kid. -/
theorem tail_one {w : World} {base : Nat} {k n : Int} {x0 : Option Addr} {xa : Option Addr} {ca : Nat} {x : Option Addr} {c : Nat} {p0 : Nat} {W : World} {ns : List Nd} {k0 n0 : Int} {f0 : Fo} (hp : (putL k0 n0 f0 ns).2 = p0) (h : PvAt base w.heap.size k n (.cons k0 n0 f0 .nil) xa ca (putL k0 n0 f0 ns).1 x c p0 0 W) (g : w.grownBy W (rowOf x0)) (nr : Nr w x0 x) (hn : (putL k0 n0 f0 ns).1.length ≤ 100000) :
    TailOk w base k n x0 (putL k n (.cons k0 n0 f0 .nil) ns) W := by
  refine ⟨_, x, c, _, _, ?_, hn, h.weak g nr⟩
  subst hp
  rfl
theorem tail_two {w : World} {base : Nat} {k n : Int} {x0 : Option Addr} {xa : Option Addr} {ca : Nat} {x : Option Addr} {c : Nat} {p0 p1 : Nat} {W : World} {ns : List Nd} {k0 n0 k1 n1 : Int} {f0 f1 : Fo} (hp : (putL k0 n0 f0 ns).2 = p0) (hq : (putL k1 n1 f1 (putL k0 n0 f0 ns).1).2 = p1)
    (h : PvAt base w.heap.size k n (.cons k0 n0 f0 (.cons k1 n1 f1 .nil)) xa ca (putL k1 n1 f1 (putL k0 n0 f0 ns).1).1 x c p0 p1 W) (g : w.grownBy W (rowOf x0)) (nr : Nr w x0 x) (hn : (putL k1 n1 f1 (putL k0 n0 f0 ns).1).1.length ≤ 100000) :
    TailOk w base k n x0 (putL k n (.cons k0 n0 f0 (.cons k1 n1 f1 .nil)) ns) W := by
  refine ⟨_, x, c, _, _, ?_, hn, h.weak g nr⟩
  subst hp hq
  rfl

set_option maxRecDepth 100000 in
set_option maxHeartbeats 16000000 in
theorem r4put_any (base s : Nat) : ∀ (F : Fo), F.size < s → ∀ (k n : Int) (xa : Option Addr) (ca L : Nat) (x : Option Addr) (c : Nat) (ns : List Nd) (w : World), SlIn w (· < L) F xa ca → L ≤ base → base ≤ w.heap.size → NOwn w base (.slice x ns.length c) ns → F.len ≤ 2 → W2 F → ns.length + F.size + 1 ≤ 100000 →
    Calls Try.prog 49 #[.agg #[.slice x ns.length c], .agg #[.int .i64 k, .int .i64 n, .slice xa F.len ca]] w (RpPost base x (putL k n F ns) w) := by
  induction s with
  | zero => intro F hs; omega
  | succ s ih =>
    intro F hs k n xa ca L x c ns w hsl hL hbase hown hF2 hw2 hsz
    have IH := Lib.hid ih
    clear ih
    obtain ⟨hP0, hb0⟩ := PvAt.start hown k n F xa ca
    have HLO : Hid (∀ q, q < L → some q ≠ rowOf x ∧ q < w.heap.size) := Lib.hid (fun q hq => ⟨fun e => by
      have := (hown.lt q (by rw [rowOf_eq]; exact e.symm)).1
      omega, by omega⟩)
    obtain ⟨PL, hPL⟩ : ∃ PL, putL k n F ns = PL := ⟨_, rfl⟩
    rw [hPL]
    have HPL := Lib.hid hPL
    clear hPL
    have hways : F = .nil ∨ (∃ k0 n0 f0, F = .cons k0 n0 f0 .nil) ∨ (∃ k0 n0 f0 k1 n1 f1, F = .cons k0 n0 f0 (.cons k1 n1 f1 .nil)) := by
      match F, hF2 with
      | .nil, _ => exact .inl rfl
      | .cons k0 n0 f0 .nil, _ => exact .inr (.inl ⟨_, _, _, rfl⟩)
      | .cons k0 n0 f0 (.cons k1 n1 f1 .nil), _ => exact .inr (.inr ⟨_, _, _, _, _, _, rfl⟩)
      | .cons _ _ _ (.cons _ _ _ (.cons _ _ _ r)), h => simp [Fo.len] at h
    rcases hways with rfl | ⟨k0, n0, f0, rfl⟩ | ⟨k0, n0, f0, k1, n1, f1, rfl⟩
    case' inl =>
      have t1 : ¬ (0 : Int) < (Fo.nil.len : Int) := by simp [Fo.len]
      have t2 : ¬ (1 : Int) < (Fo.nil.len : Int) := by simp [Fo.len]
      have HT := Lib.hid (show TailOk w base k n x PL _ from ⟨ns, x, c, 0, 0, by rw [← HPL.out]; rfl, by omega, hP0.weak (grow_below (rowOf x) hb0) (Nr.refl w x)⟩)
      clear hP0 hb0 hown hsl hw2 IH HLO HPL
      go_enter Try.func49, Try.ntmps49
      go_wp2_with fail
    case' inr.inl =>
      have t1 : (0 : Int) < ((Fo.cons k0 n0 f0 .nil).len : Int) := by simp [Fo.len]; try omega
      have h0 : 0 < (Fo.cons k0 n0 f0 .nil).len := by simp [Fo.len]
      obtain ⟨b, o, rfl, hbL, hf⟩ := hsl.some h0
      have HF := Lib.hid hf
      have hf1 := FoIn.keep (w' := (((w.alloc (.cells #[.slice x ns.length c] 26)).alloc (.cells #[.int .i64 k, .int .i64 n, .slice (some ⟨b, o, none⟩) (Fo.cons k0 n0 f0 .nil).len ca] 30)).alloc (.cells #[.slice none 0 0] 26)).alloc (.cells #[.int .i64 k, .int .i64 n, .int .i64 0, .int .i64 0] 41)) (fun q (hq : q < L) => hb0.block q (by omega)) _ _ _ hbL hf
      obtain ⟨e0, e1, ⟨a0, c0, e2, hs0⟩, hr0⟩ := hf1.first
      have hz : f0.size + Fo.size .nil + 1 < s + 1 := hs
      obtain ⟨hk2, hwk, hwr⟩ := hw2
      have hsz' : ns.length + (f0.size + Fo.size .nil + 1) + 1 ≤ 100000 := hsz
      have HC := Lib.hid (IH.out f0 (by omega) k0 n0 a0 c0 L x c ns (((((w.alloc (.cells #[.slice x ns.length c] 26)).alloc (.cells #[.int .i64 k, .int .i64 n, .slice (some ⟨b, o, none⟩) (Fo.cons k0 n0 f0 .nil).len ca] 30)).alloc (.cells #[.slice none 0 0] 26)).alloc (.cells #[.int .i64 k, .int .i64 n, .int .i64 0, .int .i64 0] 41)).drew) hs0.drew hL (Nat.le_trans hbase hb0.size) hP0.own hk2 hwk (by omega))
      obtain ⟨c10, c11, c12, c13, c14, c15, c16, c17, c18, c19⟩ := hP0.facts
      obtain ⟨z1, z2, z3⟩ := hP0.free
      have HPP := Lib.hid hP0
      have HB0 := Lib.hid hb0
      have HWR := Lib.hid hwr
      have hpl := putL_len k0 n0 f0 ns
      obtain ⟨P, hP⟩ : ∃ P, putL k0 n0 f0 ns = P := ⟨_, rfl⟩
      rw [hP] at HC hpl
      have HPE := Lib.hid hP
      clear hP0 hb0 hwr hf hf1 hown hsl hr0 hs0 hk2 hwk hP hsz
      go_enter Try.func49, Try.ntmps49
      go_wp2_with fail
      go_region_law (go_simp; go_at_call 49; refine HC.out.mono ?_; rintro e w2 ⟨x', c', rfl, q1, q2, q3⟩; obtain ⟨⟨y0, y1, y2, y3⟩, hAF⟩ := (HPP.out.draws 1).after q1 q2 q3 HPP.out.facts.2.2.2.2.2.2.2.2.2; have HAF := Lib.hid hAF; have HQ := Lib.hid (And.intro (grow_after (grow_draws (grow_below (rowOf x) HB0.out) 1) q2) (Nr.trans (Nr.refl _ _) (Below.draws HB0.out 1).size q3)); have u0 := cell_at y0 0; have u3 := cell_at y3 2; have uz := free_of y0; have uz3 := free_of y3; simp at u0 u3; clear y0 y1 y2 y3 hAF q1 q2 q3)
      all_goals
        first
        | (obtain ⟨W1, hA⟩ : ∃ W1, ((w2.setCell ⟨w.heap.size, 0, none⟩ (.slice x' P.1.length c')).setCell ⟨w.heap.size + 1 + 1 + 1, 2, none⟩ (.int .i64 P.2)) = W1 := ⟨_, rfl⟩
           have HS1 := Lib.hid (HAF.out 2 P.2 P.2 0 rfl).1
           have HG1 := Lib.hid (And.intro (grow_set (grow_set HQ.out.1 (Nat.le_refl _) 0 (.slice x' P.1.length c')) (show w.heap.size ≤ w.heap.size + 1 + 1 + 1 by omega) 2 (.int .i64 P.2)) HQ.out.2)
           rw [hA] at HS1 HG1 ⊢)
        | (obtain ⟨W1, hA⟩ : ∃ W1, ((w2.setCell ⟨w.heap.size + 1 + 1 + 1, 2, none⟩ (.int .i64 P.2)).setCell ⟨w.heap.size, 0, none⟩ (.slice x' P.1.length c')) = W1 := ⟨_, rfl⟩
           have HS1 := Lib.hid (HAF.out 2 P.2 P.2 0 rfl).2
           have HG1 := Lib.hid (And.intro (grow_set (grow_set HQ.out.1 (show w.heap.size ≤ w.heap.size + 1 + 1 + 1 by omega) 2 (.int .i64 P.2)) (Nat.le_refl _) 0 (.slice x' P.1.length c')) HQ.out.2)
           rw [hA] at HS1 HG1 ⊢)
        clear hA HAF HQ HC HPP HB0 u0 u3 uz uz3 c10 c11 c12 c13 c14 c15 c16 c17 c18 c19 z1 z2 z3 e0 e1 e2
        obtain ⟨c10, c11, c12, c13, c14, c15, c16, c17, c18, c19⟩ := HS1.out.facts
        have t2 : ¬ (1 : Int) < ((Fo.cons k0 n0 f0 .nil).len : Int) := by simp [Fo.len]
        have HT : Hid (TailOk w base k n x PL W1) := Lib.hid (by
          rw [← HPL.out]
          exact tail_one (by rw [HPE.out]) (by rw [HPE.out]; exact HS1.out) HG1.out.1 HG1.out.2 (by rw [HPE.out]; omega))
        clear IH HLO HPL HPE HS1 HG1 HF HWR hs hF2 h0 hz hsz' hpl
        go_wp2_with fail
    case' inr.inr =>
      have t1 : (0 : Int) < ((Fo.cons k0 n0 f0 (.cons k1 n1 f1 .nil)).len : Int) := by simp [Fo.len]; try omega
      have h0 : 0 < (Fo.cons k0 n0 f0 (.cons k1 n1 f1 .nil)).len := by simp [Fo.len]
      obtain ⟨b, o, rfl, hbL, hf⟩ := hsl.some h0
      have HF := Lib.hid hf
      have hf1 := FoIn.keep (w' := (((w.alloc (.cells #[.slice x ns.length c] 26)).alloc (.cells #[.int .i64 k, .int .i64 n, .slice (some ⟨b, o, none⟩) (Fo.cons k0 n0 f0 (.cons k1 n1 f1 .nil)).len ca] 30)).alloc (.cells #[.slice none 0 0] 26)).alloc (.cells #[.int .i64 k, .int .i64 n, .int .i64 0, .int .i64 0] 41)) (fun q (hq : q < L) => hb0.block q (by omega)) _ _ _ hbL hf
      obtain ⟨e0, e1, ⟨a0, c0, e2, hs0⟩, hr0⟩ := hf1.first
      have hz : f0.size + Fo.size (.cons k1 n1 f1 .nil) + 1 < s + 1 := hs
      obtain ⟨hk2, hwk, hwr⟩ := hw2
      have hsz' : ns.length + (f0.size + Fo.size (.cons k1 n1 f1 .nil) + 1) + 1 ≤ 100000 := hsz
      have HC := Lib.hid (IH.out f0 (by omega) k0 n0 a0 c0 L x c ns (((((w.alloc (.cells #[.slice x ns.length c] 26)).alloc (.cells #[.int .i64 k, .int .i64 n, .slice (some ⟨b, o, none⟩) (Fo.cons k0 n0 f0 (.cons k1 n1 f1 .nil)).len ca] 30)).alloc (.cells #[.slice none 0 0] 26)).alloc (.cells #[.int .i64 k, .int .i64 n, .int .i64 0, .int .i64 0] 41)).drew) hs0.drew hL (Nat.le_trans hbase hb0.size) hP0.own hk2 hwk (by omega))
      obtain ⟨c10, c11, c12, c13, c14, c15, c16, c17, c18, c19⟩ := hP0.facts
      obtain ⟨z1, z2, z3⟩ := hP0.free
      have HPP := Lib.hid hP0
      have HB0 := Lib.hid hb0
      have HWR := Lib.hid hwr
      have hpl := putL_len k0 n0 f0 ns
      obtain ⟨P, hP⟩ : ∃ P, putL k0 n0 f0 ns = P := ⟨_, rfl⟩
      rw [hP] at HC hpl
      have HPE := Lib.hid hP
      clear hP0 hb0 hwr hf hf1 hown hsl hr0 hs0 hk2 hwk hP hsz
      go_enter Try.func49, Try.ntmps49
      go_wp2_with fail
      go_region_law (go_simp; go_at_call 49; refine HC.out.mono ?_; rintro e w2 ⟨x', c', rfl, q1, q2, q3⟩; obtain ⟨⟨y0, y1, y2, y3⟩, hAF⟩ := (HPP.out.draws 1).after q1 q2 q3 HPP.out.facts.2.2.2.2.2.2.2.2.2; have HAF := Lib.hid hAF; have HQ := Lib.hid (And.intro (grow_after (grow_draws (grow_below (rowOf x) HB0.out) 1) q2) (Nr.trans (Nr.refl _ _) (Below.draws HB0.out 1).size q3)); have u0 := cell_at y0 0; have u3 := cell_at y3 2; have uz := free_of y0; have uz3 := free_of y3; simp at u0 u3; clear y0 y1 y2 y3 hAF q1 q2 q3)
      all_goals
        first
        | (obtain ⟨W1, hA⟩ : ∃ W1, ((w2.setCell ⟨w.heap.size, 0, none⟩ (.slice x' P.1.length c')).setCell ⟨w.heap.size + 1 + 1 + 1, 2, none⟩ (.int .i64 P.2)) = W1 := ⟨_, rfl⟩
           have HS1 := Lib.hid (HAF.out 2 P.2 P.2 0 rfl).1
           have HG1 := Lib.hid (And.intro (grow_set (grow_set HQ.out.1 (Nat.le_refl _) 0 (.slice x' P.1.length c')) (show w.heap.size ≤ w.heap.size + 1 + 1 + 1 by omega) 2 (.int .i64 P.2)) HQ.out.2)
           rw [hA] at HS1 HG1 ⊢)
        | (obtain ⟨W1, hA⟩ : ∃ W1, ((w2.setCell ⟨w.heap.size + 1 + 1 + 1, 2, none⟩ (.int .i64 P.2)).setCell ⟨w.heap.size, 0, none⟩ (.slice x' P.1.length c')) = W1 := ⟨_, rfl⟩
           have HS1 := Lib.hid (HAF.out 2 P.2 P.2 0 rfl).2
           have HG1 := Lib.hid (And.intro (grow_set (grow_set HQ.out.1 (show w.heap.size ≤ w.heap.size + 1 + 1 + 1 by omega) 2 (.int .i64 P.2)) (Nat.le_refl _) 0 (.slice x' P.1.length c')) HQ.out.2)
           rw [hA] at HS1 HG1 ⊢)
        clear hA HAF HQ HC HPP HB0 u0 u3 uz uz3 c10 c11 c12 c13 c14 c15 c16 c17 c18 c19 z1 z2 z3 e0 e1 e2
        obtain ⟨c10, c11, c12, c13, c14, c15, c16, c17, c18, c19⟩ := HS1.out.facts
        have t2 : (1 : Int) < ((Fo.cons k0 n0 f0 (.cons k1 n1 f1 .nil)).len : Int) := by simp [Fo.len]
        have hf2 := FoIn.keep (w' := W1) (fun q (hq : q < L) => HG1.out.1.block q (HLO.out q hq).2 (HLO.out q hq).1) _ _ _ hbL HF.out
        obtain ⟨e0, e1, ⟨a1, c1, e2, hs1⟩, _⟩ := hf2.first.2.2.2.first
        obtain ⟨hk2, hwk, _⟩ := HWR.out
        simp only [Fo.size] at hz hsz'
        have HC := Lib.hid (IH.out f1 (by omega) k1 n1 a1 c1 L x' c' P.1 W1.drew hs1.drew hL (Nat.le_trans hbase HG1.out.1.size) HS1.out.own hk2 hwk (by omega))
        have hpl2 := putL_len k1 n1 f1 P.1
        obtain ⟨Q, hQ⟩ : ∃ Q, putL k1 n1 f1 P.1 = Q := ⟨_, rfl⟩
        rw [hQ] at HC hpl2
        have HQE := Lib.hid hQ
        obtain ⟨z1, z2, z3⟩ := HS1.out.free
        clear hf2 hs1 hk2 hwk hQ
        go_wp2_with fail
        go_region_law (go_simp; go_at_call 49; refine HC.out.mono ?_; rintro e w3 ⟨x2, c2, rfl, q1, q2, q3⟩; obtain ⟨⟨y0, y1, y2, y3⟩, hAF⟩ := (HS1.out.draws 1).after q1 q2 q3 HS1.out.facts.2.2.2.2.2.2.2.2.2; have HAF := Lib.hid hAF; have HQ := Lib.hid (And.intro (grow_trans (grow_draws HG1.out.1 1) HG1.out.2 q2) (Nr.trans HG1.out.2 (grow_draws HG1.out.1 1).size q3)); have u0 := cell_at y0 0; have u3 := cell_at y3 3; have uz := free_of y0; have uz3 := free_of y3; simp at u0 u3; clear y0 y1 y2 y3 hAF q1 q2 q3)
        all_goals
          first
          | (obtain ⟨W2, hA⟩ : ∃ W2, ((w3.setCell ⟨w.heap.size, 0, none⟩ (.slice x2 Q.1.length c2)).setCell ⟨w.heap.size + 1 + 1 + 1, 3, none⟩ (.int .i64 Q.2)) = W2 := ⟨_, rfl⟩
             have HS2 := Lib.hid (HAF.out 3 Q.2 P.2 Q.2 rfl).1
             have HG2 := Lib.hid (And.intro (grow_set (grow_set HQ.out.1 (Nat.le_refl _) 0 (.slice x2 Q.1.length c2)) (show w.heap.size ≤ w.heap.size + 1 + 1 + 1 by omega) 3 (.int .i64 Q.2)) HQ.out.2)
             rw [hA] at HS2 HG2 ⊢)
          | (obtain ⟨W2, hA⟩ : ∃ W2, ((w3.setCell ⟨w.heap.size + 1 + 1 + 1, 3, none⟩ (.int .i64 Q.2)).setCell ⟨w.heap.size, 0, none⟩ (.slice x2 Q.1.length c2)) = W2 := ⟨_, rfl⟩
             have HS2 := Lib.hid (HAF.out 3 Q.2 P.2 Q.2 rfl).2
             have HG2 := Lib.hid (And.intro (grow_set (grow_set HQ.out.1 (show w.heap.size ≤ w.heap.size + 1 + 1 + 1 by omega) 3 (.int .i64 Q.2)) (Nat.le_refl _) 0 (.slice x2 Q.1.length c2)) HQ.out.2)
             rw [hA] at HS2 HG2 ⊢)
          have HT : Hid (TailOk w base k n x PL W2) := Lib.hid (by
            rw [← HPL.out]
            exact tail_two (by rw [HPE.out]) (by rw [HPE.out, HQE.out]) (by rw [HPE.out, HQE.out]; exact HS2.out) HG2.out.1 HG2.out.2 (by rw [HPE.out, HQE.out]; omega))
          clear hA HAF HQ HC u0 u3 uz uz3 c10 c11 c12 c13 c14 c15 c16 c17 c18 c19 z1 z2 z3 e0 e1 e2 IH HLO HPL HPE HQE HS1 HG1 HS2 HG2 HF HWR hs hF2 h0 hz hsz' hpl hpl2
          go_wp2_with fail
    all_goals
      obtain ⟨nsS, xS, cS, p0, p1, hP, hLn, hS⟩ := HT.out
      have HP := Lib.hid hP
      have HS := Lib.hid hS
      clear hP hS HT
      go_loopw [7] (fun i wr => ∃ q : Nat, i = .int .i64 q ∧ q ≤ nsS.length ∧ Hid (∀ i, i < q → nsS[i]? ≠ some ⟨k, n, p0, p1⟩) ∧ Hid (PwAt w base k n x nsS xS cS p0 p1 wr)) (fun i _ => nsS.length - (intOf i).toNat)
      case atStart => exact ⟨0, rfl, Nat.zero_le _, Lib.hid (fun i hi => by omega), HS⟩
      case round =>
        obtain ⟨q, rfl, hq, hno, hR⟩ := hrel
        obtain ⟨c0, c1, c2, c3, c4, c5, c6, c7, c8⟩ := hR.out.facts
        by_cases hqn : q < nsS.length
        · have hqn' : (q : Int) < (nsS.length : Int) := by omega
          have hq0 : (0 : Int) ≤ (q : Int) := by omega
          obtain ⟨a9, cap9, hv9, hin9⟩ := hR.out.own.cases
          injection hv9 with hv9 _ hv9'
          subst hv9 hv9'
          obtain ⟨b9, o9, rfl, _, hat9⟩ := hin9.at hqn
          obtain ⟨⟨k', n', xa', xb'⟩, hy⟩ : ∃ y, nsS[q]? = some y := ⟨_, List.getElem?_eq_getElem hqn⟩
          obtain ⟨f0, f1, f2, f3⟩ := hat9 q ⟨k', n', xa', xb'⟩ hy
          by_cases hxy : (⟨k', n', xa', xb'⟩ : Nd) = ⟨k, n, p0, p1⟩
          · have heq := bin_yes k' n' xa' xb' k n p0 p1 hxy
            have HE : Hid (∀ m, RpPost base x PL w (.returned (.tuple #[.agg #[.slice (some ⟨b9, o9, none⟩) nsS.length cS], .int .i64 q])) ((wr.drewN m).setCell ⟨w.heap.size + 1 + 1, 0, none⟩ (.slice (some ⟨b9, o9, none⟩) nsS.length cS))) := Lib.hid (fun m => by
              obtain ⟨h1, h2⟩ := idx_first hno.out (hy.trans (by rw [hxy]))
              have hadd : addN nsS ⟨k, n, p0, p1⟩ = (nsS, q) := by unfold addN; rw [if_pos h1, h2]
              rw [HP.out, hadd]
              refine ⟨_, cS, rfl, ?_, grow_set (grow_draws hR.out.g m) (by omega) 0 _, hR.out.nr⟩
              exact NOwn.kept (w := wr.drewN m) hR.out.own (Only.set _ (w.heap.size + 1 + 1) 0 _) (by rw [rowOf_eq]; exact .inr (Ne.symm hR.out.apart.2.1)))
            clear hxy hy hat9 hin9 hR HS HP
            go_wp2_with fail
            go_quiet (fail)
            go_wp2_with fail
            refine bodyPost_ret (v := .tuple #[.agg #[.slice (some ⟨b9, o9, none⟩) nsS.length cS], .int .i64 q]) (by simp [results, Try.results49, go_sem, c1]) rfl ?_
            exact HE.out _
          · have heq := bin_no k' n' xa' xb' k n p0 p1 hxy
            have HN : Hid (∀ i, i < q + 1 → nsS[i]? ≠ some ⟨k, n, p0, p1⟩) := Lib.hid (fun i hi => by
              rcases Nat.lt_succ_iff_lt_or_eq.1 hi with h | h
              · exact hno.out i h
              · rw [h, hy]; intro e; injection e with e; exact hxy e)
            have HRD : Hid (∀ m, PwAt w base k n x nsS (some ⟨b9, o9, none⟩) cS p0 p1 (wr.drewN m)) := Lib.hid (fun m => hR.out.draws m)
            clear hxy hy hat9 hin9
            go_wp2_with fail
            go_quiet (fail)
            go_wp2_with fail
            go_roundw
            case rel => exact ⟨q + 1, by go_num, by omega, HN, HRD.out _⟩
            case measure => simp [intOf]; omega
        · have hqn' : ¬ (q : Int) < (nsS.length : Int) := by omega
          have hdn : Hid (PL = (nsS ++ [⟨k, n, p0, p1⟩], nsS.length)) := Lib.hid (by
            rw [HP.out]
            refine if_neg (fun hm => ?_)
            obtain ⟨i, hi, he⟩ := List.mem_iff_getElem.1 hm
            exact hno.out i (by omega) (by rw [List.getElem?_eq_getElem hi, he]))
          obtain ⟨x', c', w2, hrun, g0, g1, g2, g3, g4, g5⟩ := hR.out.push hbase hLn
          have HRUN := Lib.hid hrun
          have HE := Lib.hid g5
          clear hrun g5 hR HS HP hno
          go_wp2_with (at_builtin; refine wpList_append_run (by rfl) _ _ _ (by rfl) (by rfl) (by rfl) HRUN.out ?_)
          have hln0 : (0 : Int) ≤ (nsS.length : Int) := by omega
          go_region
          all_goals
            go_wp2_with fail
            refine bodyPost_ret (v := .tuple #[.agg #[.slice x' (nsS.length + 1) c'], .int .i64 nsS.length]) (by simp [results, Try.results49, go_sem, g2]) rfl ?_
            rw [hdn.out]
            exact HE.out _
end Go.Proofs.Ytmbopdlmkbbbiaa
