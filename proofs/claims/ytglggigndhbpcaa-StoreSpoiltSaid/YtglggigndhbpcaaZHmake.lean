/- Rows of atoms and of clauses of the call's own: what lies in memory, and what an append does. No condition but those that stand in each statement. -/
import Derived.Test.YtglggigndhbpcaaZBase
import Derived.Test.YtglggigndhbpcaaZOwn
import Derived.Laws.OwnMore
namespace Go.Proofs.Ytglggigndhbpcaa
open Go.RowKit

def atCells : List At → List Value
  | [] => []
  | x :: r => .int .i64 x.1 :: .int .i64 x.2 :: atCells r
theorem atCells_len : ∀ l : List At, (atCells l).length = l.length * 2
  | [] => rfl
  | x :: r => by have := atCells_len r; simp only [atCells, List.length_cons, this]; omega
theorem atCells_app : ∀ l m : List At, atCells (l ++ m) = atCells l ++ atCells m
  | [], _ => rfl
  | x :: r, m => by simp [atCells, atCells_app r m]
theorem atCells_at : ∀ (l : List At) (i : Nat), i < l.length → (atCells l)[i * 2]? = some (.int .i64 (l.getD i at0).1) ∧ (atCells l)[i * 2 + 1]? = some (.int .i64 (l.getD i at0).2)
  | [], i, h => by simp at h
  | x :: r, 0, _ => ⟨rfl, rfl⟩
  | x :: r, i + 1, h => by
    have := atCells_at r i (by simpa using h)
    rw [show (i + 1) * 2 = i * 2 + 1 + 1 by omega]
    exact ⟨by simpa [atCells] using this.1, by simpa [atCells] using this.2⟩
theorem infoAtom : (Try.prog.info? 27).map (fun i => (i.zero, i.size, i.bytes)) = some (some (.agg #[.int .i64 0, .int .i64 0]), 2, 16) := by kernel_rfl
theorem infoClause : (Try.prog.info? 35).map (fun i => (i.zero, i.size, i.bytes)) = some (some (.agg #[.slice none 0 0, .int .i64 0, .int .i64 0]), 3, 40) := by kernel_rfl

/-- A row of atoms of the call's own. -/
def AOwn (w : World) (base : Nat) (v : Value) (l : List At) : Prop := w.ownsRow base 27 2 v l.length (atCells l)
theorem AOwn.nil (w : World) (base : Nat) : AOwn w base (.slice none 0 0) [] := World.ownsRow_nil w base _ _
theorem AOwn.form {w : World} {base : Nat} {v : Value} {l : List At} (h : AOwn w base v l) : ∃ x c, v = .slice x l.length c := by
  rcases h.2 with ⟨rfl, h0⟩ | ⟨g, cap, cur, rfl, _⟩
  · exact ⟨none, 0, by rw [h0]⟩
  · exact ⟨_, _, rfl⟩
theorem AOwn.lt {w : World} {base : Nat} {v : Value} {l : List At} (h : AOwn w base v l) : ∀ g, v.ownBlock = some g → base ≤ g ∧ g < w.heap.size := fun g hg => World.ownsRow.lt h g hg
theorem AOwn.keep {w w' : World} {base : Nat} {v : Value} {l : List At} (h : AOwn w base v l) (hk : ∀ g, v.ownBlock = some g → w'.heap[g]? = w.heap[g]?) : AOwn w' base v l := by
  refine ⟨h.1, ?_⟩
  rcases h.2 with hn | ⟨g, cap, cur, e, hb, hh, rest⟩
  · exact .inl hn
  · exact .inr ⟨g, cap, cur, e, hb, (hk g (by rw [e]; rfl)).trans hh, rest⟩
theorem AOwn.ats {w : World} {base : Nat} {x : Option Addr} {c : Nat} {l : List At} (h : AOwn w base (.slice x l.length c) l) : AtsIn w (fun b => base ≤ b ∧ b < w.heap.size) l x c := by
  rcases h.2 with ⟨e, h0⟩ | ⟨g, cap, cur, e, hb, hh, hle, hm, _⟩
  · injection e with e1 _ e3
    subst e1 e3
    exact ⟨by omega, Nat.zero_le _, fun _ => rfl, fun hx => by omega⟩
  · injection e with e1 _ e3
    subst e1 e3
    refine ⟨hle, hm, (fun e => by cases e), fun _ => ⟨g, 0, rfl, ⟨hb, lt_of_block hh⟩, fun i hi => ?_⟩⟩
    have ha := atCells_at l i hi
    rw [Nat.zero_add]
    exact ⟨(World.ownsRow.cellAt h (i * 2) (by omega)).trans ha.1, (World.ownsRow.cellAt h (i * 2 + 1) (by omega)).trans ha.2⟩
/-- What an append of a row's own leaves, in the words of a turn. -/
theorem turn_of {w w' : World} {o : Obj} {v v' : Value} (hg : (w.alloc o).grownBy w' v.ownBlock) (hn : v'.ownBlock = v.ownBlock ∨ v'.ownBlock = some (w.heap.size + 1)) : Turn (OwnB v) w (OwnB v') w' := by
  refine ⟨hg.os, hg.tape, hg.output, by have := hg.size; simp at this; omega, fun b hb hO => ?_, fun b hb => ?_⟩
  · rw [hg.block b (by simp; omega) (fun e => hO e.symm), heap_old _ _ hb]
  · unfold OwnB at hb ⊢
    rcases hn with hn | hn
    · exact .inl (by rw [← hn]; exact hb)
    · rw [hn] at hb; injection hb with hb; exact .inr (by omega)
/-- THE APPEND of an atom. -/
theorem AOwn.push {w : World} {base : Nat} {v : Value} {l : List At} (h : AOwn w base v l) (ty : TypeId) (x : At) (hsz : l.length ≤ 100000) (hbase : base ≤ w.heap.size) :
    ∃ g c w', (Builtin.append_ #[28, 28] ty #[v, .slice (some ⟨w.heap.size, 0, none⟩) 1 1]).run Try.prog (w.alloc (.cells #[.int .i64 x.1, .int .i64 x.2] 27)) = .ok (.slice (some ⟨g, 0, none⟩) (l.length + 1) c) w' ∧ AOwn w' base (.slice (some ⟨g, 0, none⟩) (l.length + 1) c) (l ++ [x]) ∧ Turn (OwnB v) w (OwnB (.slice (some ⟨g, 0, none⟩) (l.length + 1) c)) w' := by
  obtain ⟨i0, hi, hz0, hz1, hz2⟩ := info_parts infoAtom
  obtain ⟨v', w', hrun, h2, h3, h4, h5⟩ := run_append_own_at (P := Try.prog) _ base 28 ty 27 i0 _ 2 16 Try.underlying28 hi hz0 hz1 hz2 rfl (by omega) v l.length _ (World.ownsRow.alloc h (.cells #[.int .i64 x.1, .int .i64 x.2] 27)) ⟨w.heap.size, 0, none⟩ 1 1 [.int .i64 x.1, .int .i64 x.2] rfl (fun j u hj => by
      have e : (⟨w.heap.size, 0, none⟩ : Addr).add j = ⟨w.heap.size, j, none⟩ := by unfold Addr.add; split <;> simp_all
      rw [e, cell_at (heap_new w _) j]
      simpa using hj) (by simp [Value.oneCell']) (by unfold maxLen; omega) (by omega) (by simp; omega)
  obtain ⟨g, c, rfl⟩ := ownsRow_succ h2
  refine ⟨g, c, w', hrun, ?_, turn_of h3 (by simpa using h5)⟩
  unfold AOwn
  rw [List.length_append, atCells_app]
  exact h2

/-- The cells that stand for clauses whose atoms From lie in blocks of which P holds. -/
def RepC (w : World) (P : Nat → Prop) : List Cl → List Value → Prop
  | [], xs => xs = []
  | c :: r, xs => ∃ a cap xs', xs = .slice a c.1.length cap :: .int .i64 c.2.1 :: .int .i64 c.2.2 :: xs' ∧ AtsIn w P c.1 a cap ∧ RepC w P r xs'
theorem RepC.length {w : World} {P : Nat → Prop} : ∀ {l : List Cl} {xs : List Value}, RepC w P l xs → xs.length = l.length * 3
  | [], xs, h => by have h : xs = [] := h; subst h; rfl
  | _ :: _, xs, h => by
    obtain ⟨a, cap, xs', rfl, _, hr⟩ := h
    have := hr.length
    simp only [List.length_cons, this]; omega
theorem RepC.one {w : World} {P : Nat → Prop} : ∀ {l : List Cl} {xs : List Value}, RepC w P l xs → ∀ u ∈ xs, u.oneCell' = true
  | [], xs, h, u, hu => by have h : xs = [] := h; subst h; simp at hu
  | _ :: _, xs, h, u, hu => by
    obtain ⟨a, cap, xs', rfl, _, hr⟩ := h
    simp only [List.mem_cons] at hu
    rcases hu with rfl | rfl | rfl | hu
    · rfl
    · rfl
    · rfl
    · exact hr.one u hu
theorem RepC.app {w : World} {P : Nat → Prop} : ∀ {l m : List Cl} {xs ys : List Value}, RepC w P l xs → RepC w P m ys → RepC w P (l ++ m) (xs ++ ys)
  | [], m, xs, ys, h, hg => by have h : xs = [] := h; subst h; exact hg
  | _ :: _, m, xs, ys, h, hg => by
    obtain ⟨a, cap, xs', rfl, hs, hr⟩ := h
    exact ⟨a, cap, xs' ++ ys, rfl, hs, hr.app hg⟩
theorem RepC.keep {w w' : World} {P Q : Nat → Prop} (hk : ∀ b, P b → w'.heap[b]? = w.heap[b]?) (hQ : ∀ b, P b → Q b) : ∀ {l : List Cl} {xs : List Value}, RepC w P l xs → RepC w' Q l xs
  | [], xs, h => h
  | _ :: _, xs, h => by
    obtain ⟨a, cap, xs', rfl, hs, hr⟩ := h
    exact ⟨a, cap, xs', rfl, (hs.keep hk).weak hQ, hr.keep hk hQ⟩
theorem RepC.at {w : World} {P : Nat → Prop} : ∀ {l : List Cl} {xs : List Value}, RepC w P l xs → ∀ i, i < l.length → (∃ a cap, xs[i * 3]? = some (.slice a (l.getD i cl0).1.length cap) ∧ AtsIn w P (l.getD i cl0).1 a cap) ∧ xs[i * 3 + 1]? = some (.int .i64 (l.getD i cl0).2.1) ∧ xs[i * 3 + 2]? = some (.int .i64 (l.getD i cl0).2.2)
  | [], _, _, i, h => by simp at h
  | _ :: _, xs, h, 0, _ => by
    obtain ⟨a, cap, xs', rfl, hs, _⟩ := h
    exact ⟨⟨a, cap, rfl, hs⟩, rfl, rfl⟩
  | _ :: r, xs, h, i + 1, hi => by
    obtain ⟨a, cap, xs', rfl, hs, hr⟩ := h
    obtain ⟨⟨a', cap', q1, q2⟩, q3, q4⟩ := hr.at i (by simpa using hi)
    rw [show (i + 1) * 3 = i * 3 + 1 + 1 + 1 by omega]
    exact ⟨⟨a', cap', by simpa using q1, by simpa using q2⟩, by simpa using q3, by simpa using q4⟩
/-- A row of clauses of the call's own, whose atoms lie beside it. -/
def COwn (w : World) (base : Nat) (v : Value) (l : List Cl) : Prop := ∃ xs, w.ownsRow base 35 3 v l.length xs ∧ RepC w (fun b => base ≤ b ∧ b < w.heap.size ∧ ¬ OwnB v b) l xs
theorem COwn.nil (w : World) (base : Nat) : COwn w base (.slice none 0 0) [] := ⟨[], World.ownsRow_nil w base _ _, rfl⟩
theorem COwn.form {w : World} {base : Nat} {v : Value} {l : List Cl} (h : COwn w base v l) : ∃ x c, v = .slice x l.length c := by
  obtain ⟨xs, h, _⟩ := h
  rcases h.2 with ⟨rfl, h0⟩ | ⟨g, cap, cur, rfl, _⟩
  · exact ⟨none, 0, by rw [h0]⟩
  · exact ⟨_, _, rfl⟩
theorem COwn.lt {w : World} {base : Nat} {v : Value} {l : List Cl} (h : COwn w base v l) : ∀ g, v.ownBlock = some g → base ≤ g ∧ g < w.heap.size := fun g hg => by
  obtain ⟨xs, h, _⟩ := h
  exact World.ownsRow.lt h g hg
theorem COwn.keep {w w' : World} {base : Nat} {v : Value} {l : List Cl} (h : COwn w base v l) (hz : w.heap.size ≤ w'.heap.size) (hk : ∀ b, base ≤ b → b < w.heap.size → w'.heap[b]? = w.heap[b]?) : COwn w' base v l := by
  have hlt := h.lt
  obtain ⟨xs, h, hr⟩ := h
  refine ⟨xs, ⟨h.1, ?_⟩, hr.keep (fun b hb => hk b hb.1 hb.2.1) (fun b hb => ⟨hb.1, Nat.lt_of_lt_of_le hb.2.1 hz, hb.2.2⟩)⟩
  rcases h.2 with hn | ⟨g, cap, cur, e, hb, hh, rest⟩
  · exact .inl hn
  · have := hlt g (by rw [e]; rfl)
    exact .inr ⟨g, cap, cur, e, hb, (hk g this.1 this.2).trans hh, rest⟩
theorem COwn.low {w : World} {base base' : Nat} {v : Value} {l : List Cl} (h : COwn w base v l) (hb : base' ≤ base) : COwn w base' v l := by
  obtain ⟨xs, h, hr⟩ := h
  refine ⟨xs, ⟨h.1, ?_⟩, hr.keep (fun b _ => rfl) (fun b hb2 => ⟨Nat.le_trans hb hb2.1, hb2.2⟩)⟩
  rcases h.2 with hn | ⟨g, cap, cur, e, hb2, rest⟩
  · exact .inl hn
  · exact .inr ⟨g, cap, cur, e, Nat.le_trans hb hb2, rest⟩
theorem COwn.cls {w : World} {base : Nat} {x : Option Addr} {c : Nat} {l : List Cl} (h : COwn w base (.slice x l.length c) l) : ClsIn w (fun b => base ≤ b ∧ b < w.heap.size) l x c := by
  obtain ⟨xs, h, hr⟩ := h
  rcases h.2 with ⟨e, h0⟩ | ⟨g, cap, cur, e, hb, hh, hle, hm, _⟩
  · injection e with e1 _ e3
    subst e1 e3
    exact ⟨by omega, Nat.zero_le _, fun _ => rfl, fun hx => by omega⟩
  · injection e with e1 _ e3
    subst e1 e3
    refine ⟨hle, hm, (fun e => by cases e), fun _ => ⟨g, 0, rfl, ⟨hb, lt_of_block hh⟩, fun i hi => ?_⟩⟩
    obtain ⟨⟨a, cap', q1, q2⟩, q3, q4⟩ := hr.at i hi
    rw [Nat.zero_add]
    exact ⟨⟨a, cap', (World.ownsRow.cellAt h (i * 3) (by omega)).trans q1, q2.weak (fun b hb => ⟨hb.1, hb.2.1⟩)⟩, (World.ownsRow.cellAt h (i * 3 + 1) (by omega)).trans q3, (World.ownsRow.cellAt h (i * 3 + 2) (by omega)).trans q4⟩
/-- THE APPEND of a clause. -/
theorem COwn.push {w : World} {base : Nat} {v : Value} {l : List Cl} (h : COwn w base v l) (ty : TypeId) (c : Cl) {a : Option Addr} {cap : Nat} (hat : AtsIn w (fun b => base ≤ b ∧ b < w.heap.size ∧ ¬ OwnB v b) c.1 a cap) (hsz : l.length ≤ 100000) (hbase : base ≤ w.heap.size) :
    ∃ g k w', (Builtin.append_ #[22, 22] ty #[v, .slice (some ⟨w.heap.size, 0, none⟩) 1 1]).run Try.prog (w.alloc (.cells #[.slice a c.1.length cap, .int .i64 c.2.1, .int .i64 c.2.2] 35)) = .ok (.slice (some ⟨g, 0, none⟩) (l.length + 1) k) w' ∧ COwn w' base (.slice (some ⟨g, 0, none⟩) (l.length + 1) k) (l ++ [c]) ∧ Turn (OwnB v) w (OwnB (.slice (some ⟨g, 0, none⟩) (l.length + 1) k)) w' := by
  obtain ⟨xs, h, hr⟩ := h
  obtain ⟨i0, hi, hz0, hz1, hz2⟩ := info_parts infoClause
  obtain ⟨v', w', hrun, h2, h3, h4, h5⟩ := run_append_own_at (P := Try.prog) _ base 22 ty 35 i0 _ 3 40 Try.underlying22 hi hz0 hz1 hz2 rfl (by omega) v l.length _ (World.ownsRow.alloc h (.cells #[.slice a c.1.length cap, .int .i64 c.2.1, .int .i64 c.2.2] 35)) ⟨w.heap.size, 0, none⟩ 1 1 [.slice a c.1.length cap, .int .i64 c.2.1, .int .i64 c.2.2] rfl (fun j u hj => by
      have e : (⟨w.heap.size, 0, none⟩ : Addr).add j = ⟨w.heap.size, j, none⟩ := by unfold Addr.add; split <;> simp_all
      rw [e, cell_at (heap_new w _) j]
      simpa using hj) (by simp [Value.oneCell']) (by unfold maxLen; omega) (by omega) (by simp; omega)
  obtain ⟨g, k, rfl⟩ := ownsRow_succ h2
  have ht := turn_of h3 (by simpa using h5)
  have hn : ∀ b, b < w.heap.size → ¬ OwnB v b → ¬ OwnB (.slice (some ⟨g, 0, none⟩) (l.length + 1) k) b := fun b hb hO hO2 => by
    rcases ht.2.2.2.2.2 b hO2 with h | h
    · exact hO h
    · omega
  have hP : ∀ b, (base ≤ b ∧ b < w.heap.size ∧ ¬ OwnB v b) → w'.heap[b]? = w.heap[b]? := fun b hb => ht.2.2.2.2.1 b hb.2.1 hb.2.2
  have hQ : ∀ b, (base ≤ b ∧ b < w.heap.size ∧ ¬ OwnB v b) → (base ≤ b ∧ b < w'.heap.size ∧ ¬ OwnB (.slice (some ⟨g, 0, none⟩) (l.length + 1) k) b) := fun b hb => ⟨hb.1, Nat.lt_of_lt_of_le hb.2.1 ht.2.2.2.1, hn b hb.2.1 hb.2.2⟩
  refine ⟨g, k, w', hrun, ⟨xs ++ [.slice a c.1.length cap, .int .i64 c.2.1, .int .i64 c.2.2], by rw [List.length_append]; exact h2, (hr.keep hP hQ).app ⟨a, cap, [], rfl, (hat.keep hP).weak hQ, rfl⟩⟩, ht⟩
end Go.Proofs.Ytglggigndhbpcaa
