/- Kid. No condition but those that stand in each statement. -/
import Derived.Test.YtnfhpombnbpdcaaGreatZQ2
import Derived.Test.YtnfhpombnbpdcaaGreatZQ8
import Derived.Test.YtnfhpombnbpdcaaGreatZQ9
namespace Go.Proofs.YtnfhpombnbpdcaaGreat
open Go.RowKit
def RepP (w : World) (P : Nat → Prop) : Fo → List Value → Prop
  | .nil, xs => xs = []
  | .cons k n ks r, xs => ∃ a cap xs', xs = .int .i64 k :: .int .i64 n :: .slice a ks.len cap :: xs' ∧ SlIn w P ks a cap ∧ RepP w P r xs'
theorem RepP.keep {w w' : World} {P Q : Nat → Prop} (hP : ∀ b, P b → w'.heap[b]? = w.heap[b]?) (hQ : ∀ b, P b → Q b) : ∀ {f : Fo} {xs : List Value}, RepP w P f xs → RepP w' Q f xs
  | .nil, _, h => h
  | .cons .., _, ⟨a, cap, xs', e, hs, hr⟩ => ⟨a, cap, xs', e, (hs.keep hP).weak hQ, hr.keep hP hQ⟩
theorem RepP.snoc {w : World} {P : Nat → Prop} {k n : Int} {F : Fo} {x : Option Addr} {c : Nat} (hs : SlIn w P F x c) : ∀ {f : Fo} {xs : List Value}, RepP w P f xs → RepP w P (f.app (.cons k n F .nil)) (xs ++ [.int .i64 k, .int .i64 n, .slice x F.len c])
  | .nil, _, h => by
    have h : _ = [] := h
    subst h
    exact ⟨x, c, [], rfl, hs, rfl⟩
  | .cons .., _, ⟨a, cap, xs', e, ha, hr⟩ => by
    subst e
    exact ⟨a, cap, _, rfl, ha, RepP.snoc hs hr⟩
theorem RepP.foIn {w : World} {P : Nat → Prop} : ∀ {f : Fo} {xs : List Value} {b o : Nat}, RepP w P f xs → (∀ j u, xs[j]? = some u → w.cell? ⟨b, o + j, none⟩ = some u) → FoIn w P f b o
  | .nil, _, _, _, _, _ => trivial
  | .cons .., _, b, o, ⟨a, cap, xs', e, hs, hr⟩, hc => by
    subst e
    refine FoIn.push (hc 0 _ rfl) (hc 1 _ rfl) (hc 2 _ rfl) hs (RepP.foIn hr (fun j u hu => ?_))
    have := hc (j + 3) u (by simpa using hu)
    rwa [show o + 3 + j = o + (j + 3) by omega]
theorem RepP.length {w : World} {P : Nat → Prop} : ∀ {f : Fo} {xs : List Value}, RepP w P f xs → xs.length = f.len * 3
  | .nil, xs, h => by have h : xs = [] := h; subst h; rfl
  | .cons .., xs, ⟨a, cap, xs', e, _, hr⟩ => by
    subst e
    have := hr.length
    simp [Fo.len, this]; omega
theorem RepP.slice {w : World} {base n : Nat} {v : Value} {P : Nat → Prop} {f : Fo} {xs : List Value} (ho : w.ownsRow base 45 3 v n xs) (hr : RepP w P f xs) (hl : f.len = n) (hv : ∀ g, v.ownBlock = some g → P g) :
    ∃ x c, v = .slice x f.len c ∧ SlIn w P f x c := by
  rcases ho.2 with ⟨rfl, rfl⟩ | ⟨g, cap, cur, rfl, hb, hh, hle, hm, hs, ht⟩
  · rw [Fo.len_zero hl]
    exact ⟨none, 0, rfl, SlIn.none _ _⟩
  · subst hl
    refine ⟨some ⟨g, 0, none⟩, cap, rfl, hle, hm, (fun h => by cases h), fun _ => ⟨g, 0, rfl, hv g rfl, RepP.foIn hr (fun j u hu => ?_)⟩⟩
    rw [Nat.zero_add]
    rw [ho.cellAt j (by have := (List.getElem?_eq_some_iff.1 hu).1; rw [hr.length] at this; exact this)]
    exact hu
theorem append_kid {W : World} {LB j : Nat} {v : Value} {xs : List Value} (ty : TypeId) (ho : W.ownsRow (LB + 1) 45 3 v j xs) (hj : j ≤ 1000) (hLB : LB < W.heap.size) (k' n' : Int) (x' : Option Addr) (ln c' : Nat) :
    ∃ v' w', (Builtin.append_ #[27, 27] ty #[v, .slice (some ⟨W.heap.size, 0, none⟩) 1 1]).run Tryz.prog (W.alloc (.cells #[.int .i64 k', .int .i64 n', .slice x' ln c'] 45)) = .ok v' w' ∧
      w'.ownsRow (LB + 1) 45 3 v' (j + 1) (xs ++ [.int .i64 k', .int .i64 n', .slice x' ln c']) ∧ (W.alloc (.cells #[.int .i64 k', .int .i64 n', .slice x' ln c'] 45)).grownBy w' v.ownBlock ∧ (v'.ownBlock = v.ownBlock ∨ v'.ownBlock = some (W.heap.size + 1)) := by
  obtain ⟨i0, hi, hz0, hz1, hz2⟩ := info_parts infoLevel
  have hE := heap_new W (.cells #[.int .i64 k', .int .i64 n', .slice x' ln c'] 45)
  have hc : ∀ i u, [Value.int .i64 k', .int .i64 n', .slice x' ln c'][i]? = some u → (W.alloc (.cells #[.int .i64 k', .int .i64 n', .slice x' ln c'] 45)).cell? ((⟨W.heap.size, 0, none⟩ : Addr).add i) = some u := by
    intro i u hi
    match i, hi with
    | 0, hi => cases hi; exact cell_at hE 0
    | 1, hi => cases hi; exact cell_at hE 1
    | 2, hi => cases hi; exact cell_at hE 2
  have h1 : ∀ u ∈ [Value.int .i64 k', .int .i64 n', .slice x' ln c'], u.oneCell' = true := by
    intro u hu
    simp only [List.mem_cons, List.not_mem_nil, or_false] at hu
    rcases hu with rfl | rfl | rfl <;> rfl
  obtain ⟨v', w', hrun, g1, g2, _, g4⟩ := run_append_own_at (P := Tryz.prog) _ (LB + 1) 27 ty 45 i0 _ 3 40 Tryz.underlying27 hi hz0 hz1 hz2 rfl (by omega) v j xs (ho.alloc _) ⟨W.heap.size, 0, none⟩ 1 1 _ rfl hc h1 (by unfold maxLen; omega) (by omega) (by simp; omega)
  refine ⟨v', w', hrun, g1, g2, ?_⟩
  rcases g4 with g4 | g4
  · exact .inl g4
  · exact .inr (by simpa using g4)
end Go.Proofs.YtnfhpombnbpdcaaGreat
