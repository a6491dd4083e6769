/- Many clauses put behind a row of clauses of the call's own, whose atoms lie in elder blocks; parts of a list of clauses. No condition but those that stand in each statement. -/
import Derived.Test.YtkjmhjeebamehaaHrow2
namespace Go.Proofs.Ytkjmhjeebamehaa
open Go.RowKit

/-- The clauses lie from a cell on. -/
def SrcC (w : World) (P : Nat → Prop) (g o : Nat) (l : List Cl) : Prop :=
  ∀ i, i < l.length → (∃ a' c', w.cell? ⟨g, o + i * 3, none⟩ = some (.slice a' (l.getD i cl0).1.length c') ∧ AtsIn w P (l.getD i cl0).1 a' c') ∧
    w.cell? ⟨g, o + i * 3 + 1, none⟩ = some (.int .i64 (l.getD i cl0).2.1) ∧ w.cell? ⟨g, o + i * 3 + 2, none⟩ = some (.int .i64 (l.getD i cl0).2.2)
theorem SrcC.keep {w w' : World} {P : Nat → Prop} {g o : Nat} {l : List Cl} (h : SrcC w P g o l) (hg : w'.heap[g]? = w.heap[g]?) (hP : ∀ b, P b → w'.heap[b]? = w.heap[b]?) : SrcC w' P g o l := fun i hi => by
  obtain ⟨⟨a', c', h1, h2⟩, h3, h4⟩ := h i hi
  exact ⟨⟨a', c', (World.cell?_of_block (w := w) (a := ⟨g, o + i * 3, none⟩) hg).trans h1, h2.keep hP⟩, (World.cell?_of_block (w := w) (a := ⟨g, o + i * 3 + 1, none⟩) hg).trans h3, (World.cell?_of_block (w := w) (a := ⟨g, o + i * 3 + 2, none⟩) hg).trans h4⟩
theorem SrcC.take {w : World} {P : Nat → Prop} {g o : Nat} {l : List Cl} (h : SrcC w P g o l) (k : Nat) : SrcC w P g o (l.take k) := fun i hi => by
  rw [List.length_take] at hi
  have e : (l.take k).getD i cl0 = l.getD i cl0 := by rw [List.getD_eq_getElem?_getD, List.getD_eq_getElem?_getD, List.getElem?_take, if_pos (by omega)]
  rw [e]
  exact h i (by omega)
theorem SrcC.drop {w : World} {P : Nat → Prop} {g o : Nat} {l : List Cl} (h : SrcC w P g o l) (k : Nat) : SrcC w P g (o + k * 3) (l.drop k) := fun i hi => by
  rw [List.length_drop] at hi
  have e : (l.drop k).getD i cl0 = l.getD (k + i) cl0 := by rw [List.getD_eq_getElem?_getD, List.getD_eq_getElem?_getD, List.getElem?_drop]
  have := h (k + i) (by omega)
  rw [e, show o + k * 3 + i * 3 = o + (k + i) * 3 by omega]
  exact this
theorem SrcC.rep {w : World} {P : Nat → Prop} {g : Nat} : ∀ {l : List Cl} {o : Nat}, SrcC w P g o l → ∃ xs, RepC w P l xs ∧ ∀ j u, xs[j]? = some u → w.cell? ⟨g, o + j, none⟩ = some u
  | [], o, _ => ⟨[], rfl, fun j u h => by simp at h⟩
  | c :: r, o, h => by
    obtain ⟨⟨a', c', h1, h2⟩, h3, h4⟩ := h 0 (by simp)
    have hr : SrcC w P g (o + 3) r := fun i hi => by
      have := h (i + 1) (by simpa using hi)
      rw [show o + (i + 1) * 3 = o + 3 + i * 3 by omega] at this
      exact this
    obtain ⟨xs, hx, hc⟩ := hr.rep
    refine ⟨.slice a' c.1.length c' :: .int .i64 c.2.1 :: .int .i64 c.2.2 :: xs, ⟨a', c', xs, rfl, h2, hx⟩, fun j u hj => ?_⟩
    match j, hj with
    | 0, hj => cases hj; exact h1
    | 1, hj => cases hj; exact h3
    | 2, hj => cases hj; exact h4
    | j + 3, hj =>
      rw [show o + (j + 3) = o + 3 + j by omega]
      exact hc j u (by simpa using hj)
theorem ClsIn.src {w : World} {P : Nat → Prop} {l : List Cl} {g o cap : Nat} (h : ClsIn w P l (Option.some ⟨g, o, Option.none⟩) cap) (hl : 0 < l.length) : SrcC w P g o l ∧ P g := by
  obtain ⟨b, o', e, hb, hf⟩ := h.some hl
  cases e
  exact ⟨hf, hb⟩
/-- THE APPEND of many clauses whose atoms lie in elder blocks. -/
theorem CRow.many {w : World} {B base : Nat} {v : Value} {l ms : List Cl} (h : CRow w B base v l) (hBb : B ≤ base) (ty : TypeId) {g o n c : Nat} (hs : 0 < ms.length → SrcC w (· < B) g o ms) (hn : ms.length = n) (hsz : l.length + ms.length ≤ 100000) (hbase : base ≤ w.heap.size) :
    ∃ v' w', (Builtin.append_ #[26, 26] ty #[v, .slice (some ⟨g, o, none⟩) n c]).run Try.prog w = .ok v' w' ∧ CRow w' B base v' (l ++ ms) ∧ Turn (OwnB v) w (OwnB v') w' := by
  subst hn
  have hown := h.lt
  obtain ⟨xs, h, hr⟩ := h
  obtain ⟨i0, hi, hz0, hz1, hz2⟩ := info_parts infoClause
  obtain ⟨ns, hns, hcs⟩ : ∃ ns, RepC w (· < B) ms ns ∧ ∀ j u, ns[j]? = some u → w.cell? ⟨g, o + j, none⟩ = some u := by
    rcases Nat.eq_zero_or_pos ms.length with h0 | h0
    · obtain rfl := List.eq_nil_of_length_eq_zero h0
      exact ⟨[], rfl, fun j u hj => by simp at hj⟩
    · exact (hs h0).rep
  obtain ⟨v', w', hrun, h2, h3, _, h5⟩ := run_append_own_at (P := Try.prog) w base 26 ty 36 i0 _ 3 40 Try.underlying26 hi hz0 hz1 hz2 rfl (by omega) v l.length _ h ⟨g, o, none⟩ ms.length c ns hns.length (fun j u hj => by
      have e : (⟨g, o, none⟩ : Addr).add j = ⟨g, o + j, none⟩ := by unfold Addr.add; split <;> simp_all
      rw [e]; exact hcs j u hj) hns.one (by unfold maxLen; omega) (by omega) hbase
  have ht : Turn (OwnB v) w (OwnB v') w' := ⟨h3.os, h3.tape, h3.output, h3.size, fun b hb hn => h3.block b hb (fun e => hn e.symm), fun b hO => by
    rcases h5 with e | e
    · exact .inl (by unfold OwnB at hO ⊢; rw [← e]; exact hO)
    · unfold OwnB at hO; rw [e] at hO; injection hO with hO; exact .inr (by omega)⟩
  have hP : ∀ b, b < B → w'.heap[b]? = w.heap[b]? := fun b hb => ht.2.2.2.2.1 b (by omega) (fun hO => by have := (hown b hO).1; omega)
  exact ⟨v', w', hrun, ⟨xs ++ ns, by rw [List.length_append]; exact h2, (hr.keep hP (fun _ hb => hb)).app (hns.keep hP (fun _ hb => hb))⟩, ht⟩
/-- Two parts of a list, one behind the other, in a new row. -/
theorem two_parts {w W : World} {B g n1 n2 n3 c1 c2 : Nat} {a1 a2 : Option Addr} {p q : List Cl} (ty : TypeId) (hB : B ≤ w.heap.size) (hg : g < w.heap.size) (hb : Below w.heap.size w W) (h1 : ∃ o, a1 = some ⟨g, o, none⟩ ∧ (0 < p.length → SrcC w (· < B) g o p)) (h2 : ∃ o, a2 = some ⟨g, o, none⟩ ∧ (0 < q.length → SrcC w (· < B) g o q)) (l1 : p.length = n1) (l2 : q.length = n2) (l3 : n1 + n2 = n3) (hsz : n3 ≤ 1000) :
    ∃ v1 W1 x c W2, Hid ((Builtin.append_ #[26, 26] ty #[.slice none 0 0, .slice a1 n1 c1]).run Try.prog W = .ok v1 W1) ∧ Hid ((Builtin.append_ #[26, 26] ty #[v1, .slice a2 n2 c2]).run Try.prog W1 = .ok (.slice x n3 c) W2) ∧
      Hid (ClsIn W2 (· < W2.heap.size) (p ++ q) x c) ∧ Hid (Below w.heap.size w W2) ∧ Hid (Below W.heap.size W W2) := by
  obtain ⟨o1, rfl, h1⟩ := h1
  obtain ⟨o2, rfl, h2⟩ := h2
  have hz := hb.size
  obtain ⟨v1, W1, r1, k1, t1⟩ := (CRow.nil W B W.heap.size).many (by omega) ty (g := g) (o := o1) (c := c1) (fun h0 => (h1 h0).keep (hb.block g hg) (fun b hb2 => hb.block b (by omega))) l1 (by simp; omega) (Nat.le_refl _)
  rw [List.nil_append] at k1
  have b1 : Below w.heap.size w W1 := hb.trans (t1.low hz (fun b hO => by cases hO))
  have bW1 : Below W.heap.size W W1 := t1.low (Nat.le_refl _) (fun b hO => by cases hO)
  have hlt := k1.lt
  obtain ⟨v2, W2, r2, k2, t2⟩ := k1.many (by omega) ty (g := g) (o := o2) (c := c2) (fun h0 => (h2 h0).keep (b1.block g hg) (fun b hb2 => b1.block b (by omega))) l2 (by omega) (by have := t1.2.2.2.1; omega)
  obtain ⟨x, c, rfl⟩ := k2.form
  have hz2 := t2.2.2.2.1
  have hz1 := t1.2.2.2.1
  have hl3 : (p ++ q).length = n3 := by rw [List.length_append]; omega
  refine ⟨v1, W1, x, c, W2, Lib.hid r1, Lib.hid (by rw [← hl3]; exact r2), Lib.hid (k2.cls (by omega)), Lib.hid (b1.trans (t2.low (by omega) (fun b hO => by have := (hlt b hO).1; omega))), Lib.hid (bW1.trans (t2.low (by omega) (fun b hO => (hlt b hO).1)))⟩
/-- One clause of a list, as a list. -/
theorem SrcC.one {w : World} {P : Nat → Prop} {g o cap : Nat} {l : List Cl} (h : SrcC w P g o l) {k : Nat} (hk : k < l.length) (h1 : 1 ≤ cap) (h2 : cap ≤ maxLen) (hP : P g) : ClsIn w P [l.getD k cl0] (some ⟨g, o + k * 3, none⟩) cap := by
  refine ⟨h1, h2, (fun e => by cases e), fun _ => ⟨g, o + k * 3, rfl, hP, fun i hi => ?_⟩⟩
  have hi0 : i = 0 := by simp at hi; exact hi
  subst hi0
  have := h k hk
  simpa using this
end Go.Proofs.Ytkjmhjeebamehaa
