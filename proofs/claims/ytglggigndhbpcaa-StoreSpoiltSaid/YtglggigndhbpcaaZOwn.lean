/- A row of numbers of the call's own: what lies in memory, and what an append does. No condition but those that stand in each statement. -/
import Derived.Test.YtglggigndhbpcaaZBase
import Derived.Maps.AppendAt
import Derived.RangeFuncBox
namespace Go.Proofs.Ytglggigndhbpcaa
open Go.RowKit

/-- A row of numbers of the call's own. -/
def IOwn (w : World) (base : Nat) (v : Value) (zs : List Int) : Prop := w.ownsRow base 3 1 v zs.length (zs.map (Value.int .i64))
theorem infoInt : (Try.prog.info? 3).map (fun i => (i.zero, i.size, i.bytes)) = some (some (.int .i64 0), 1, 8) := by kernel_rfl
theorem IOwn.nil (w : World) (base : Nat) : IOwn w base (.slice none 0 0) [] := World.ownsRow_nil w base _ _
theorem IOwn.form {w : World} {base : Nat} {v : Value} {zs : List Int} (h : IOwn w base v zs) : ∃ x c, v = .slice x zs.length c := by
  rcases h.2 with ⟨rfl, h0⟩ | ⟨g, cap, cur, rfl, _⟩
  · exact ⟨none, 0, by rw [h0]⟩
  · exact ⟨_, _, rfl⟩
theorem IOwn.at {w : World} {base : Nat} {v : Value} {zs : List Int} (h : IOwn w base v zs) {i : Nat} (hi : i < zs.length) : ∃ g c, v = .slice (some ⟨g, 0, none⟩) zs.length c ∧ base ≤ g ∧ g < w.heap.size ∧ w.cell? ⟨g, i, none⟩ = some (.int .i64 (zs.getD i 0)) := by
  rcases h.2 with ⟨rfl, h0⟩ | ⟨g, cap, cur, rfl, hb, hh, _⟩
  · omega
  · refine ⟨g, cap, rfl, hb, lt_of_block hh, ?_⟩
    rw [World.ownsRow.cellAt h i (by omega)]
    simp [List.getD_eq_getElem?_getD, hi]
theorem IOwn.low {w : World} {base base' : Nat} {v : Value} {zs : List Int} (h : IOwn w base v zs) (hb : base' ≤ base) : IOwn w base' v zs := by
  refine ⟨h.1, ?_⟩
  rcases h.2 with h | ⟨g, cap, cur, h1, h2, h3⟩
  · exact .inl h
  · exact .inr ⟨g, cap, cur, h1, by omega, h3⟩
/-- THE APPEND of a number. -/
theorem IOwn.append {w : World} {base : Nat} {v : Value} {zs : List Int} (h : IOwn w base v zs) (ty : TypeId) (z : Int) (hsz : zs.length ≤ 1000000) (hbase : base ≤ w.heap.size) :
    ∃ v' w', (Builtin.append_ #[23, 23] ty #[v, .slice (some ⟨w.heap.size, 0, none⟩) 1 1]).run Try.prog (w.alloc (.cells #[.int .i64 z] 3)) = .ok v' w' ∧ IOwn w' base v' (zs ++ [z]) ∧ (w.alloc (.cells #[.int .i64 z] 3)).grownBy w' v.ownBlock ∧ (v'.ownBlock = v.ownBlock ∨ v'.ownBlock = some (w.heap.size + 1)) := by
  obtain ⟨i0, hi, hz0, hz1, hz2⟩ := info_parts infoInt
  obtain ⟨v', w', hrun, h2, h3, _, h5⟩ := run_append_own_at (P := Try.prog) _ base 23 ty 3 i0 _ 1 8 Try.underlying23 hi hz0 hz1 hz2 rfl (by omega) v zs.length _ (World.ownsRow.alloc h _) ⟨w.heap.size, 0, none⟩ 1 1 [.int .i64 z] rfl (cell_one_new _ _ _) (by simp [Value.oneCell']) (by unfold maxLen; omega) (by omega) (by simp; omega)
  refine ⟨v', w', hrun, ?_, h3, by simpa using h5⟩
  unfold IOwn
  rw [List.length_append, List.map_append]
  exact h2
theorem IOwn.kept {w w' : World} {base : Nat} {v : Value} {zs : List Int} {row : Option Nat} (h : IOwn w base v zs) (hg : w.grownBy w' row) (hne : v.ownBlock = none ∨ v.ownBlock ≠ row) : IOwn w' base v zs := World.ownsRow.kept h hg hne
theorem IOwn.drew {w : World} {base : Nat} {v : Value} {zs : List Int} (h : IOwn w base v zs) (m : Nat) : IOwn (w.drewN m) base v zs := h
theorem IOwn.alloc {w : World} {base : Nat} {v : Value} {zs : List Int} (h : IOwn w base v zs) (o : Obj) : IOwn (w.alloc o) base v zs := World.ownsRow.alloc h o
theorem IOwn.lt {w : World} {base : Nat} {v : Value} {zs : List Int} (h : IOwn w base v zs) : ∀ g, v.ownBlock = some g → base ≤ g ∧ g < w.heap.size := fun g hg => World.ownsRow.lt h g hg
/-- The row lies there still where its own block does. -/
theorem IOwn.keep {w w' : World} {base : Nat} {v : Value} {zs : List Int} (h : IOwn w base v zs) (hk : ∀ g, v.ownBlock = some g → w'.heap[g]? = w.heap[g]?) : IOwn w' base v zs := by
  refine ⟨h.1, ?_⟩
  rcases h.2 with hn | ⟨g, cap, cur, e, hb, hh, rest⟩
  · exact .inl hn
  · exact .inr ⟨g, cap, cur, e, hb, (hk g (by rw [e]; rfl)).trans hh, rest⟩

/-- What may have changed: the blocks of which O tells; of the blocks of which O' tells, each is one of those or new. -/
def Turn (O : Nat → Prop) (w : World) (O' : Nat → Prop) (w' : World) : Prop :=
  w'.os = w.os ∧ w'.tape = w.tape ∧ w'.output = w.output ∧ w.heap.size ≤ w'.heap.size ∧ (∀ b, b < w.heap.size → ¬ O b → w'.heap[b]? = w.heap[b]?) ∧ ∀ b, O' b → O b ∨ w.heap.size ≤ b
theorem Turn.refl (O : Nat → Prop) (w : World) : Turn O w O w := ⟨rfl, rfl, rfl, Nat.le_refl _, fun _ _ _ => rfl, fun _ h => .inl h⟩
theorem Turn.trans {O O' O'' : Nat → Prop} {w w' w'' : World} (h : Turn O w O' w') (k : Turn O' w' O'' w'') : Turn O w O'' w'' := by
  obtain ⟨h1, h2, h3, h4, h5, h6⟩ := h
  obtain ⟨k1, k2, k3, k4, k5, k6⟩ := k
  refine ⟨k1.trans h1, k2.trans h2, k3.trans h3, Nat.le_trans h4 k4, fun b hb hO => (k5 b (by omega) (fun h => ?_)).trans (h5 b hb hO), fun b hb => ?_⟩
  · rcases h6 b h with h | h
    · exact hO h
    · omega
  · rcases k6 b hb with h | h
    · exact h6 b h
    · exact .inr (by omega)
theorem Turn.below {O : Nat → Prop} {w w' : World} (h : Below w.heap.size w w') : Turn O w O w' := ⟨h.os, h.tape, h.output, h.size, fun b hb _ => h.block b hb, fun _ h => .inl h⟩
theorem Turn.alloc (O : Nat → Prop) (w : World) (o : Obj) : Turn O w O (w.alloc o) := Turn.below ((Below.refl _ _).alloc (Nat.le_refl _) o)
/-- All that lay below B lies there still, where O tells of no block below B. -/
theorem Turn.low {O O' : Nat → Prop} {w w' : World} {B : Nat} (h : Turn O w O' w') (hB : B ≤ w.heap.size) (hO : ∀ b, O b → B ≤ b) : Below B w w' := ⟨h.1, h.2.1, h.2.2.1, h.2.2.2.1, fun b hb => h.2.2.2.2.1 b (by omega) (fun e => by have := hO b e; omega)⟩
theorem Turn.weak {O O' O2 : Nat → Prop} {w w' : World} (h : Turn O w O' w') (hO : ∀ b, b < w.heap.size → O b → O2 b) : Turn O2 w (fun b => O2 b ∨ O' b) w' := ⟨h.1, h.2.1, h.2.2.1, h.2.2.2.1, fun b hb hn => h.2.2.2.2.1 b hb (fun e => hn (hO b hb e)), fun b hb => by
  rcases hb with hb | hb
  · exact .inl hb
  · rcases h.2.2.2.2.2 b hb with h1 | h1
    · rcases Nat.lt_or_ge b w.heap.size with h2 | h2
      · exact .inl (hO b h2 h1)
      · exact .inr h2
    · exact .inr h1⟩
/-- The block of a row of the call's own. -/
def OwnB (v : Value) (b : Nat) : Prop := v.ownBlock = some b
/-- THE APPEND of a number, in those words. -/
theorem IOwn.push {w : World} {base : Nat} {v : Value} {zs : List Int} (h : IOwn w base v zs) (ty : TypeId) (z : Int) (hsz : zs.length ≤ 1000000) (hbase : base ≤ w.heap.size) :
    ∃ g' cap' w', (Builtin.append_ #[23, 23] ty #[v, .slice (some ⟨w.heap.size, 0, none⟩) 1 1]).run Try.prog (w.alloc (.cells #[.int .i64 z] 3)) = .ok (.slice (some ⟨g', 0, none⟩) (zs.length + 1) cap') w' ∧ IOwn w' base (.slice (some ⟨g', 0, none⟩) (zs.length + 1) cap') (zs ++ [z]) ∧ Turn (OwnB v) w (OwnB (.slice (some ⟨g', 0, none⟩) (zs.length + 1) cap')) w' := by
  obtain ⟨v', w', hrun, h2, h3, h5⟩ := h.append ty z hsz hbase
  have h2' := h2
  unfold IOwn at h2'
  rw [List.length_append, List.length_singleton] at h2'
  obtain ⟨g', cap', rfl⟩ := ownsRow_succ h2'
  have hz := h3.size
  rw [World.size_alloc] at hz
  refine ⟨g', cap', w', hrun, h2, h3.os, h3.tape, h3.output, by omega, fun b hb hn => ?_, fun b hb => ?_⟩
  · exact (h3.block b (by rw [World.size_alloc]; omega) (fun e => hn e.symm)).trans (heap_old _ _ hb)
  · rcases h5 with h5 | h5
    · exact .inl (by unfold OwnB at hb ⊢; rw [← h5]; exact hb)
    · unfold OwnB at hb
      rw [h5] at hb
      injection hb with hb
      exact .inr (by omega)
end Go.Proofs.Ytglggigndhbpcaa
/- A row of numbers of the call's own, to which a number is put, in one lemma; cells of a block and of another one that lie there still. No condition but those that stand in each statement. -/
namespace Go.Proofs.Ytglggigndhbpcaa
open Go.RowKit

theorem IOwn.more {w wr : World} {v : Value} {zs : List Int} (h : IOwn wr w.heap.size v zs) (hb : Below w.heap.size w wr) (ty : TypeId) (z : Int) (hsz : zs.length ≤ 1000) :
    ∃ g c w3, Hid ((Builtin.append_ #[23, 23] ty #[v, .slice (some ⟨wr.heap.size, 0, none⟩) 1 1]).run Try.prog (wr.alloc (.cells #[.int .i64 z] 3)) = .ok (.slice (some ⟨g, 0, none⟩) (zs.length + 1) c) w3) ∧
      Hid (IOwn w3 w.heap.size (.slice (some ⟨g, 0, none⟩) (zs.length + 1) c) (zs ++ [z])) ∧ Hid (Below w.heap.size w w3) := by
  obtain ⟨g, c, w3, hrun, h2, ht⟩ := h.push ty z (by omega) hb.size
  exact ⟨g, c, w3, Lib.hid hrun, Lib.hid h2, Lib.hid (hb.trans (ht.low hb.size (fun b hb => (h.lt b hb).1)))⟩
/-- What a call answers that tells a row of numbers and an error. -/
def RowPost (R : List Int) (E : Int) (w : World) (e : Ending) (w' : World) : Prop :=
  ∃ x c, e = .returned (.tuple #[.slice x R.length c, .int .i64 E]) ∧ IOwn w' w.heap.size (.slice x R.length c) R ∧ Below w.heap.size w w'
theorem RowPost.nil {w w' : World} {E : Int} {e : Ending} (he : e = .returned (.tuple #[.slice none 0 0, .int .i64 E])) (hb : Below w.heap.size w w') : RowPost [] E w e w' := ⟨none, 0, he, IOwn.nil _ _, hb⟩
theorem held4 {W w' : World} {X Y o p q r : Nat} {u0 u1 u2 y : Value} (hb : Below W.heap.size W w') (hX : X < W.heap.size) (hY : Y < W.heap.size)
    (h : W.cell? ⟨X, o, none⟩ = some u0 ∧ W.cell? ⟨X, p, none⟩ = some u1 ∧ W.cell? ⟨X, q, none⟩ = some u2 ∧ W.cell? ⟨Y, r, none⟩ = some y) :
    Hid (Below W.heap.size W w') ∧ w'.cell? ⟨X, o, none⟩ = some u0 ∧ w'.cell? ⟨X, p, none⟩ = some u1 ∧ w'.cell? ⟨X, q, none⟩ = some u2 ∧ w'.cell? ⟨Y, r, none⟩ = some y :=
  ⟨Lib.hid hb, (bcell hb _ _ hX).trans h.1, (bcell hb _ _ hX).trans h.2.1, (bcell hb _ _ hX).trans h.2.2.1, (bcell hb _ _ hY).trans h.2.2.2⟩
end Go.Proofs.Ytglggigndhbpcaa
/- A row of numbers of the call's own, read as a list of numbers, in its world and in all later ones. No condition but those that stand in each statement. -/
namespace Go.Proofs.Ytglggigndhbpcaa
open Go.RowKit

theorem IOwn.ints {w : World} {base : Nat} {x : Option Addr} {c : Nat} {zs : List Int} (h : IOwn w base (.slice x zs.length c) zs) : IntsIn w (· < w.heap.size) zs x c := by
  rcases h.2 with ⟨e, h0⟩ | ⟨g, cap, cur, e, hb, hh, hle, hm, _⟩
  · injection e with e1 _ e3
    subst e1 e3
    exact ⟨by omega, Nat.zero_le _, fun _ => rfl, fun hx => by omega⟩
  · injection e with e1 _ e3
    subst e1 e3
    refine ⟨hle, hm, (fun e => by cases e), fun _ => ⟨g, 0, rfl, lt_of_block hh, fun i hi => ?_⟩⟩
    obtain ⟨g', c', hv, _, _, hc⟩ := h.at hi
    injection hv with h1 _ _
    injection h1 with h1
    injection h1 with h1 _ _
    subst h1
    rw [Nat.zero_add]
    exact hc
/-- A row of numbers that lies in a world, and in all later ones. -/
def RowL (zs : List Int) (x : Option Addr) (c : Nat) (w : World) : Prop := ∀ W, Below w.heap.size w W → IntsIn W (· < w.heap.size) zs x c ∧ w.heap.size ≤ W.heap.size
theorem RowL.of {zs : List Int} {x : Option Addr} {c base : Nat} {w : World} (h : IOwn w base (.slice x zs.length c) zs) : RowL zs x c w := fun _ hb => ⟨h.ints.below hb, hb.size⟩
end Go.Proofs.Ytglggigndhbpcaa
