/- Stack. No condition but those that stand in each statement. -/
import Derived.Maps.AppendAt
import Derived.Laws.OwnMore
import Derived.OwnWalk
import Derived.Test.YtnfhpombnbpdcaaGreatZQ1
namespace Go.Proofs.YtnfhpombnbpdcaaGreat
open Go.RowKit
namespace Fo
def app : Fo → Fo → Fo
  | nil, g => g
  | cons k n ks r, g => cons k n ks (r.app g)
theorem app_len : ∀ f g : Fo, (f.app g).len = f.len + g.len
  | nil, g => by simp [app, len]
  | cons _ _ _ r, g => by simp [app, len, app_len r g]; omega
theorem app_size : ∀ f g : Fo, (f.app g).size = f.size + g.size
  | nil, g => by simp [app, size]
  | cons _ _ ks r, g => by simp [app, size, app_size r g]; omega
theorem snoc : ∀ {f : Fo}, 0 < f.len → ∃ (i : Fo) (k n : Int) (ks : Fo), f = i.app (cons k n ks nil)
  | nil, h => by simp [len] at h
  | cons k n ks nil, _ => ⟨nil, k, n, ks, rfl⟩
  | cons k n ks (cons k' n' ks' r), _ => by
    obtain ⟨i, k1, n1, ks1, h⟩ := snoc (f := cons k' n' ks' r) (by simp [len])
    exact ⟨cons k n ks i, k1, n1, ks1, by rw [h]; rfl⟩
theorem app_eq : ∀ {i j g h : Fo}, i.len = j.len → (i.app g = j.app h ↔ i = j ∧ g = h)
  | nil, nil, g, h, _ => by simp [app]
  | nil, cons .., _, _, e => by simp [len] at e
  | cons .., nil, _, _, e => by simp [len] at e
  | cons k n ks r, cons k' n' ks' r', g, h, e => by
    have := app_eq (i := r) (j := r') (g := g) (h := h) (by simpa [len] using e)
    simp only [app, cons.injEq, this]
    constructor
    · rintro ⟨a, b, c, d, e⟩; exact ⟨⟨a, b, c, d⟩, e⟩
    · rintro ⟨⟨a, b, c, d⟩, e⟩; exact ⟨a, b, c, d, e⟩
end Fo
def Rep (w : World) (B : Nat) : Fo → List Value → Prop
  | .nil, xs => xs = []
  | .cons k n ks r, xs => ∃ a cap xs', xs = .int .i64 k :: .int .i64 n :: .slice a ks.len cap :: xs' ∧ SlIn w (· < B) ks a cap ∧ Rep w B r xs'
theorem Rep.length {w : World} {B : Nat} : ∀ {f : Fo} {xs : List Value}, Rep w B f xs → xs.length = f.len * 3
  | .nil, xs, h => by have h : xs = [] := h; subst h; rfl
  | .cons .., xs, h => by
    obtain ⟨a, cap, xs', rfl, _, hr⟩ := h
    have := hr.length
    simp [Fo.len, this]; omega
theorem Rep.one {w : World} {B : Nat} : ∀ {f : Fo} {xs : List Value}, Rep w B f xs → ∀ u ∈ xs, u.oneCell' = true
  | .nil, xs, h, u, hu => by have h : xs = [] := h; subst h; simp at hu
  | .cons .., xs, h, u, hu => by
    obtain ⟨a, cap, xs', rfl, _, hr⟩ := h
    simp only [List.mem_cons] at hu
    rcases hu with rfl | rfl | rfl | hu
    · rfl
    · rfl
    · rfl
    · exact hr.one u hu
theorem Rep.app {w : World} {B : Nat} : ∀ {f g : Fo} {xs ys : List Value}, Rep w B f xs → Rep w B g ys → Rep w B (f.app g) (xs ++ ys)
  | .nil, g, xs, ys, h, hg => by have h : xs = [] := h; subst h; exact hg
  | .cons .., g, xs, ys, h, hg => by
    obtain ⟨a, cap, xs', rfl, hs, hr⟩ := h
    exact ⟨a, cap, xs' ++ ys, rfl, hs, hr.app hg⟩
theorem Rep.split {w : World} {B : Nat} : ∀ {f g : Fo} {xs : List Value}, Rep w B (f.app g) xs → ∃ x1 x2, xs = x1 ++ x2 ∧ Rep w B f x1 ∧ Rep w B g x2
  | .nil, g, xs, h => ⟨[], xs, rfl, rfl, h⟩
  | .cons .., g, xs, h => by
    obtain ⟨a, cap, xs', rfl, hs, hr⟩ := h
    obtain ⟨x1, x2, rfl, h1, h2⟩ := hr.split
    exact ⟨_ :: _ :: _ :: x1, x2, rfl, ⟨a, cap, x1, rfl, hs, h1⟩, h2⟩
theorem Rep.of {w : World} {B : Nat} : ∀ {f : Fo} {b o : Nat}, FoIn w (· < B) f b o → ∃ xs, Rep w B f xs ∧ ∀ j u, xs[j]? = some u → w.cell? ⟨b, o + j, none⟩ = some u
  | .nil, b, o, _ => ⟨[], rfl, by simp⟩
  | .cons k n ks r, b, o, h => by
    obtain ⟨h0, h1, ⟨a, cap, h2, hs⟩, hr⟩ := h.first
    obtain ⟨xs, hx, hc⟩ := Rep.of hr
    refine ⟨_, ⟨a, cap, xs, rfl, hs, hx⟩, fun j u hu => ?_⟩
    match j with
    | 0 => simp at hu; rw [← hu]; exact h0
    | 1 => simp at hu; rw [← hu]; exact h1
    | 2 => simp at hu; rw [← hu]; exact h2
    | j + 3 =>
      simp only [List.getElem?_cons_succ] at hu
      have := hc j u hu
      rwa [show o + (j + 3) = o + 3 + j by omega]
theorem infoLevel : (Tryz.prog.info? 45).map (fun i => (i.zero, i.size, i.bytes)) = some (some (.agg #[.int .i64 0, .int .i64 0, .slice none 0 0]), 3, 40) := by kernel_rfl
def Own (w0 : World) (B : Nat) (w : World) (base g cap : Nat) (f : Fo) : Prop := ∃ xs, w.ownsRow base 45 3 (.slice (some ⟨g, 0, none⟩) f.len cap) f.len xs ∧ Rep w0 B f xs
theorem Own.lt {w0 w : World} {B base g cap : Nat} {f : Fo} (h : Own w0 B w base g cap f) : base ≤ g ∧ g < w.heap.size := by
  obtain ⟨xs, ho, _⟩ := h
  exact ho.lt g rfl
theorem Own.kept {w0 w w' : World} {B base g cap : Nat} {f : Fo} {row : Option Nat} (h : Own w0 B w base g cap f) (hg : w.grownBy w' row) (hne : row ≠ some g) : Own w0 B w' base g cap f := by
  obtain ⟨xs, ho, hr⟩ := h
  exact ⟨xs, ho.kept hg (.inr (fun e => hne e.symm)), hr⟩
theorem Own.alloc {w0 w : World} {B base g cap : Nat} {f : Fo} (h : Own w0 B w base g cap f) (o : Obj) : Own w0 B (w.alloc o) base g cap f := by
  obtain ⟨xs, ho, hr⟩ := h
  exact ⟨xs, ho.alloc o, hr⟩
theorem Own.drew {w0 w : World} {B base g cap : Nat} {f : Fo} (h : Own w0 B w base g cap f) : Own w0 B w.drew base g cap f := h
theorem Own.last {w0 w : World} {B base g cap : Nat} {i : Fo} {k n : Int} {ks : Fo} (h : Own w0 B w base g cap (i.app (.cons k n ks .nil))) :
    ∃ a c, w.cell? ⟨g, i.len * 3, none⟩ = some (.int .i64 k) ∧ w.cell? ⟨g, i.len * 3 + 1, none⟩ = some (.int .i64 n) ∧ w.cell? ⟨g, i.len * 3 + 2, none⟩ = some (.slice a ks.len c) ∧ SlIn w0 (· < B) ks a c := by
  obtain ⟨xs, ho, hr⟩ := h
  obtain ⟨x1, x2, rfl, h1, a, c, x3, rfl, hs, h3⟩ := hr.split
  have h3 : x3 = [] := h3
  subst h3
  have hl := h1.length
  have hn : (i.app (.cons k n ks .nil)).len = i.len + 1 := by rw [Fo.app_len]; rfl
  refine ⟨a, c, ?_, ?_, ?_, hs⟩
  · rw [ho.cellAt _ (by rw [hn]; omega), List.getElem?_append_right (by omega), hl, Nat.sub_self]; rfl
  · rw [ho.cellAt _ (by rw [hn]; omega), List.getElem?_append_right (by omega), hl, show i.len * 3 + 1 - i.len * 3 = 1 by omega]; rfl
  · rw [ho.cellAt _ (by rw [hn]; omega), List.getElem?_append_right (by omega), hl, show i.len * 3 + 2 - i.len * 3 = 2 by omega]; rfl
theorem Own.cut {w0 w : World} {B base g cap : Nat} {i j : Fo} (h : Own w0 B w base g cap (i.app j)) : Own w0 B w base g cap i := by
  obtain ⟨xs, ho, hr⟩ := h
  obtain ⟨x1, x2, rfl, h1, h2⟩ := hr.split
  refine ⟨x1, ⟨h1.length, ?_⟩, h1⟩
  rcases ho.2 with ⟨he, _⟩ | ⟨g', c', cur, hv, hb, hh, hle, hm, hs, ht⟩
  · cases he
  · injection hv with hv1 hv2 hv3
    injection hv1 with hv1
    injection hv1 with hv1
    subst hv1 hv3
    rw [Fo.app_len] at hle ht
    refine .inr ⟨g, cap, cur, rfl, hb, hh, by omega, hm, hs, ?_⟩
    have e := congrArg (List.take (i.len * 3)) ht
    rw [List.take_take, Nat.min_eq_left (by omega)] at e
    rw [e, ← h1.length, List.take_left]
theorem Own.lit {w0 w : World} {B base : Nat} {k n : Int} {ks : Fo} {a : Option Addr} {c : Nat} (hs : SlIn w0 (· < B) ks a c) (hb : base ≤ w.heap.size) :
    Own w0 B (w.alloc (.cells #[.int .i64 k, .int .i64 n, .slice a ks.len c] 45)) base w.heap.size 1 (.cons k n ks .nil) :=
  ⟨[.int .i64 k, .int .i64 n, .slice a ks.len c], World.ownsRow_lit w #[.int .i64 k, .int .i64 n, .slice a ks.len c] 1 hb (by unfold maxLen; omega) rfl, a, c, [], rfl, hs, rfl⟩
theorem Own.append {w0 w : World} {B base g cap : Nat} {f : Fo} (h : Own w0 B w base g cap f) (hw : Below B w0 w) (ty : TypeId) {ks : Fo} {a : Option Addr} {c : Nat} (hs : SlIn w0 (· < B) ks a c) (hsz : f.len + ks.len ≤ 10000000) (hbase : base ≤ w.heap.size) :
    ∃ g' cap' w', (Builtin.append_ #[27, 27] ty #[.slice (some ⟨g, 0, none⟩) f.len cap, .slice a ks.len c]).run Tryz.prog w = .ok (.slice (some ⟨g', 0, none⟩) (f.len + ks.len) cap') w' ∧
      Own w0 B w' base g' cap' (f.app ks) ∧ w.grownBy w' (some g) ∧ (g' = g ∨ g' = w.heap.size) := by
  obtain ⟨xs, ho, hr⟩ := h
  obtain ⟨i0, hi, hz0, hz1, hz2⟩ := info_parts infoLevel
  have key : ∀ (ys : List Value), Rep w0 B ks ys → (∃ v' w', (Builtin.append_ #[27, 27] ty #[.slice (some ⟨g, 0, none⟩) f.len cap, .slice a ks.len c]).run Tryz.prog w = .ok v' w' ∧ w'.ownsRow base 45 3 v' (f.len + ks.len) (xs ++ ys) ∧
      w.grownBy w' (some g) ∧ v' ≠ .slice none 0 0 ∧ (v'.ownBlock = some g ∨ v'.ownBlock = some w.heap.size)) → ∃ g' cap' w', (Builtin.append_ #[27, 27] ty #[.slice (some ⟨g, 0, none⟩) f.len cap, .slice a ks.len c]).run Tryz.prog w = .ok (.slice (some ⟨g', 0, none⟩) (f.len + ks.len) cap') w' ∧
      Own w0 B w' base g' cap' (f.app ks) ∧ w.grownBy w' (some g) ∧ (g' = g ∨ g' = w.heap.size) := by
    rintro ys hy ⟨v', w', h1, h2, h3, h4, h5⟩
    rcases h2.2 with ⟨he, _⟩ | ⟨g', c', cur, hv, _⟩
    · exact absurd he h4
    · subst hv
      refine ⟨g', c', w', h1, ⟨xs ++ ys, by rw [Fo.app_len]; exact h2, hr.app hy⟩, h3, ?_⟩
      simpa [Value.ownBlock] using h5
  cases a with
  | none =>
    have hc : c = 0 := hs.2.2.1 rfl
    have hl : ks.len = 0 := by have := hs.1; omega
    have hk := Fo.len_zero hl
    subst hk
    refine key [] rfl ⟨.slice (some ⟨g, 0, none⟩) f.len cap, w, ?_, by simpa [Fo.len] using ho, ⟨rfl, rfl, rfl, Nat.le_refl _, fun _ _ _ => rfl⟩, (by simp), .inl rfl⟩
    have hle : f.len ≤ cap := by
      rcases ho.2 with ⟨he, _⟩ | ⟨g', c', cur, hv, hb, hh, hle, _⟩
      · cases he
      · injection hv with _ _ hv3; subst hv3; exact hle
    simp [Builtin.append_, run_underlying Tryz.underlying27, sizeOf, typeInfo, hi, Builtin.lenOf, Builtin.firstCells, hle, storeCells, Fo.len]
  | some x =>
    have hsrc : ∃ ys, Rep w0 B ks ys ∧ ∀ j u, ys[j]? = some u → w.cell? (x.add j) = some u := by
      rcases Nat.eq_zero_or_pos ks.len with h0 | h0
      · rw [Fo.len_zero h0]
        exact ⟨[], rfl, by simp⟩
      · obtain ⟨b, o, e, hbB, hf⟩ := hs.2.2.2 h0
        cases e
        obtain ⟨ys, hy, hc⟩ := Rep.of hf
        refine ⟨ys, hy, fun j u hu => ?_⟩
        have := hc j u hu
        have e : (⟨b, o, none⟩ : Addr).add j = ⟨b, o + j, none⟩ := by unfold Addr.add; split <;> simp_all
        rw [e, hw.cell (p := ⟨b, o + j, none⟩) hbB]; exact this
    obtain ⟨ys, hy, hc⟩ := hsrc
    obtain ⟨v', w', hrun, h2, h3, h4, h5⟩ := run_append_own_at (P := Tryz.prog) w base 27 ty 45 i0 _ 3 40 Tryz.underlying27 hi hz0 hz1 hz2 rfl (by omega) _ f.len xs ho x ks.len c ys hy.length hc hy.one (by unfold maxLen; omega) (by omega) hbase
    exact key ys hy ⟨v', w', hrun, h2, h3, (fun e => by have := (h4.1 e).1; cases this), h5⟩
end Go.Proofs.YtnfhpombnbpdcaaGreat
