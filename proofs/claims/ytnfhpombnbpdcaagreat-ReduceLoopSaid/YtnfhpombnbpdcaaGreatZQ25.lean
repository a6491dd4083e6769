/- Tstack. No condition but those that stand in each statement. -/
import Derived.Maps.AppendAt
import Derived.Laws.OwnMore
import Derived.OwnWalk
import Derived.Test.YtnfhpombnbpdcaaGreatZQ16
namespace Go.Proofs.YtnfhpombnbpdcaaGreat
open Go.RowKit
def RepT (w : World) (P : Nat → Prop) : Ft → List Value → Prop
  | .nil, xs => xs = []
  | .cons k n ls ks r, xs => ∃ la lc a cap xs', xs = .int .i64 k :: .int .i64 n :: .slice la ls.len lc :: .slice a ks.len cap :: xs' ∧ SlIn w P ls la lc ∧ TlIn w P ks a cap ∧ RepT w P r xs'
theorem RepT.length {w : World} {P : Nat → Prop} : ∀ {f : Ft} {xs : List Value}, RepT w P f xs → xs.length = f.len * 4
  | .nil, xs, h => by have h : xs = [] := h; subst h; rfl
  | .cons .., xs, h => by
    obtain ⟨la, lc, a, cap, xs', rfl, _, _, hr⟩ := h
    have := hr.length
    simp [Ft.len, this]; omega
theorem RepT.one {w : World} {P : Nat → Prop} : ∀ {f : Ft} {xs : List Value}, RepT w P f xs → ∀ u ∈ xs, u.oneCell' = true
  | .nil, xs, h, u, hu => by have h : xs = [] := h; subst h; simp at hu
  | .cons .., xs, h, u, hu => by
    obtain ⟨la, lc, a, cap, xs', rfl, _, _, hr⟩ := h
    simp only [List.mem_cons] at hu
    rcases hu with rfl | rfl | rfl | rfl | hu
    · rfl
    · rfl
    · rfl
    · rfl
    · exact hr.one u hu
theorem RepT.app {w : World} {P : Nat → Prop} : ∀ {f g : Ft} {xs ys : List Value}, RepT w P f xs → RepT w P g ys → RepT w P (f.app g) (xs ++ ys)
  | .nil, g, xs, ys, h, hg => by have h : xs = [] := h; subst h; exact hg
  | .cons .., g, xs, ys, h, hg => by
    obtain ⟨la, lc, a, cap, xs', rfl, hl, hs, hr⟩ := h
    exact ⟨la, lc, a, cap, xs' ++ ys, rfl, hl, hs, hr.app hg⟩
theorem RepT.split {w : World} {P : Nat → Prop} : ∀ {f g : Ft} {xs : List Value}, RepT w P (f.app g) xs → ∃ x1 x2, xs = x1 ++ x2 ∧ RepT w P f x1 ∧ RepT w P g x2
  | .nil, g, xs, h => ⟨[], xs, rfl, rfl, h⟩
  | .cons .., g, xs, h => by
    obtain ⟨la, lc, a, cap, xs', rfl, hl, hs, hr⟩ := h
    obtain ⟨x1, x2, rfl, h1, h2⟩ := hr.split
    exact ⟨_ :: _ :: _ :: _ :: x1, x2, rfl, ⟨la, lc, a, cap, x1, rfl, hl, hs, h1⟩, h2⟩
theorem RepT.turn {w w' : World} {P Q : Nat → Prop} (hP : ∀ b, P b → w'.heap[b]? = w.heap[b]?) (hQ : ∀ b, P b → Q b) : ∀ {f : Ft} {xs : List Value}, RepT w P f xs → RepT w' Q f xs
  | .nil, _, h => h
  | .cons .., _, ⟨la, lc, a, cap, xs', e, hl, hs, hr⟩ => ⟨la, lc, a, cap, xs', e, (hl.keep hP).weak hQ, hs.turn hP hQ, hr.turn hP hQ⟩
theorem RepT.snoc {w : World} {P : Nat → Prop} {k n : Int} {L : Fo} {F : Ft} {la x : Option Addr} {lc c : Nat} (hl : SlIn w P L la lc) (hs : TlIn w P F x c) {f : Ft} {xs : List Value} (h : RepT w P f xs) : RepT w P (f.app (.cons k n L F .nil)) (xs ++ [.int .i64 k, .int .i64 n, .slice la L.len lc, .slice x F.len c]) :=
  h.app ⟨la, lc, x, c, [], rfl, hl, hs, rfl⟩
theorem RepT.ftIn {w : World} {P : Nat → Prop} : ∀ {f : Ft} {xs : List Value} {b o : Nat}, RepT w P f xs → (∀ j u, xs[j]? = some u → w.cell? ⟨b, o + j, none⟩ = some u) → FtIn w P f b o
  | .nil, _, _, _, _, _ => trivial
  | .cons .., _, b, o, ⟨la, lc, a, cap, xs', e, hl, hs, hr⟩, hc => by
    subst e
    refine FtIn.push (hc 0 _ rfl) (hc 1 _ rfl) (hc 2 _ rfl) hl (hc 3 _ rfl) hs (RepT.ftIn hr (fun j u hu => ?_))
    have := hc (j + 4) u (by simpa using hu)
    rwa [show o + 4 + j = o + (j + 4) by omega]
theorem RepT.of {w : World} {P : Nat → Prop} : ∀ {f : Ft} {b o : Nat}, FtIn w P f b o → ∃ xs, RepT w P f xs ∧ ∀ j u, xs[j]? = some u → w.cell? ⟨b, o + j, none⟩ = some u
  | .nil, b, o, _ => ⟨[], rfl, by simp⟩
  | .cons k n ls ks r, b, o, h => by
    obtain ⟨h0, h1, ⟨la, lc, h2, hl⟩, ⟨a, cap, h3, hs⟩, hr⟩ := h.first
    obtain ⟨xs, hx, hc⟩ := RepT.of hr
    refine ⟨_, ⟨la, lc, a, cap, xs, rfl, hl, hs, hx⟩, fun j u hu => ?_⟩
    match j with
    | 0 => simp at hu; rw [← hu]; exact h0
    | 1 => simp at hu; rw [← hu]; exact h1
    | 2 => simp at hu; rw [← hu]; exact h2
    | 3 => simp at hu; rw [← hu]; exact h3
    | j + 4 =>
      simp only [List.getElem?_cons_succ] at hu
      have := hc j u hu
      rwa [show o + (j + 4) = o + 4 + j by omega]
theorem infoTerm : (Tryz.prog.info? 30).map (fun i => (i.zero, i.size, i.bytes)) = some (some (.agg #[.int .i64 0, .int .i64 0, .slice none 0 0, .slice none 0 0]), 4, 64) := by kernel_rfl
def TOwn (w0 : World) (B : Nat) (w : World) (base g cap : Nat) (f : Ft) : Prop := ∃ xs, w.ownsRow base 30 4 (.slice (some ⟨g, 0, none⟩) f.len cap) f.len xs ∧ RepT w0 (· < B) f xs
theorem TOwn.lt {w0 w : World} {B base g cap : Nat} {f : Ft} (h : TOwn w0 B w base g cap f) : base ≤ g ∧ g < w.heap.size := by
  obtain ⟨xs, ho, _⟩ := h
  exact ho.lt g rfl
theorem TOwn.kept {w0 w w' : World} {B base g cap : Nat} {f : Ft} {row : Option Nat} (h : TOwn w0 B w base g cap f) (hg : w.grownBy w' row) (hne : row ≠ some g) : TOwn w0 B w' base g cap f := by
  obtain ⟨xs, ho, hr⟩ := h
  exact ⟨xs, ho.kept hg (.inr (fun e => hne e.symm)), hr⟩
theorem TOwn.alloc {w0 w : World} {B base g cap : Nat} {f : Ft} (h : TOwn w0 B w base g cap f) (o : Obj) : TOwn w0 B (w.alloc o) base g cap f := by
  obtain ⟨xs, ho, hr⟩ := h
  exact ⟨xs, ho.alloc o, hr⟩
theorem TOwn.drew {w0 w : World} {B base g cap : Nat} {f : Ft} (h : TOwn w0 B w base g cap f) : TOwn w0 B w.drew base g cap f := h
theorem TOwn.below {w0 w w' : World} {B base g cap : Nat} {f : Ft} (h : TOwn w0 B w base g cap f) (hb : Below w.heap.size w w') : TOwn w0 B w' base g cap f :=
  h.kept (row := none) ⟨hb.os, hb.tape, hb.output, hb.size, fun i hi _ => hb.block i hi⟩ (by simp)
theorem TOwn.cap {w0 w : World} {B base g cap : Nat} {f : Ft} (h : TOwn w0 B w base g cap f) : f.len ≤ cap ∧ cap ≤ 9223372036854775807 := by
  obtain ⟨xs, ho, _⟩ := h
  rcases ho.2 with ⟨he, _⟩ | ⟨g', c', cur, hv, hb, hh, hle, hm, _⟩
  · cases he
  · injection hv with _ _ hv3
    subst hv3
    unfold maxLen at hm
    exact ⟨hle, by omega⟩
theorem TOwn.last {w0 w : World} {B base g cap : Nat} {i : Ft} {k n : Int} {ls : Fo} {ks : Ft} (h : TOwn w0 B w base g cap (i.app (.cons k n ls ks .nil))) :
    ∃ la lc a c, w.cell? ⟨g, i.len * 4, none⟩ = some (.int .i64 k) ∧ w.cell? ⟨g, i.len * 4 + 1, none⟩ = some (.int .i64 n) ∧ w.cell? ⟨g, i.len * 4 + 2, none⟩ = some (.slice la ls.len lc) ∧ w.cell? ⟨g, i.len * 4 + 3, none⟩ = some (.slice a ks.len c) ∧ SlIn w0 (· < B) ls la lc ∧ TlIn w0 (· < B) ks a c := by
  obtain ⟨xs, ho, hr⟩ := h
  obtain ⟨x1, x2, rfl, h1, la, lc, a, c, x3, rfl, hl, hs, h3⟩ := hr.split
  have h3 : x3 = [] := h3
  subst h3
  have hl1 := h1.length
  have hn : (i.app (.cons k n ls ks .nil)).len = i.len + 1 := by rw [Ft.app_len]; rfl
  refine ⟨la, lc, a, c, ?_, ?_, ?_, ?_, hl, hs⟩
  · rw [ho.cellAt _ (by rw [hn]; omega), List.getElem?_append_right (by omega), hl1, Nat.sub_self]; rfl
  · rw [ho.cellAt _ (by rw [hn]; omega), List.getElem?_append_right (by omega), hl1, show i.len * 4 + 1 - i.len * 4 = 1 by omega]; rfl
  · rw [ho.cellAt _ (by rw [hn]; omega), List.getElem?_append_right (by omega), hl1, show i.len * 4 + 2 - i.len * 4 = 2 by omega]; rfl
  · rw [ho.cellAt _ (by rw [hn]; omega), List.getElem?_append_right (by omega), hl1, show i.len * 4 + 3 - i.len * 4 = 3 by omega]; rfl
theorem TOwn.cut {w0 w : World} {B base g cap : Nat} {i j : Ft} (h : TOwn w0 B w base g cap (i.app j)) : TOwn w0 B w base g cap i := by
  obtain ⟨xs, ho, hr⟩ := h
  obtain ⟨x1, x2, rfl, h1, h2⟩ := hr.split
  refine ⟨x1, ⟨h1.length, ?_⟩, h1⟩
  rcases ho.2 with ⟨he, _⟩ | ⟨g', c', cur, hv, hb, hh, hle, hm, hs, ht⟩
  · cases he
  · injection hv with hv1 hv2 hv3
    injection hv1 with hv1
    injection hv1 with hv1
    subst hv1 hv3
    rw [Ft.app_len] at hle ht
    refine .inr ⟨g, cap, cur, rfl, hb, hh, by omega, hm, hs, ?_⟩
    have e := congrArg (List.take (i.len * 4)) ht
    rw [List.take_take, Nat.min_eq_left (by omega)] at e
    rw [e, ← h1.length, List.take_left]
theorem TOwn.lit {w0 w : World} {B base : Nat} {k n : Int} {ls : Fo} {ks : Ft} {la a : Option Addr} {lc c : Nat} (hl : SlIn w0 (· < B) ls la lc) (hs : TlIn w0 (· < B) ks a c) (hb : base ≤ w.heap.size) :
    TOwn w0 B (w.alloc (.cells #[.int .i64 k, .int .i64 n, .slice la ls.len lc, .slice a ks.len c] 30)) base w.heap.size 1 (.cons k n ls ks .nil) :=
  ⟨[.int .i64 k, .int .i64 n, .slice la ls.len lc, .slice a ks.len c], World.ownsRow_lit w #[.int .i64 k, .int .i64 n, .slice la ls.len lc, .slice a ks.len c] 1 hb (by unfold maxLen; omega) rfl, la, lc, a, c, [], rfl, hl, hs, rfl⟩
theorem TOwn.append {w0 w : World} {B base g cap : Nat} {f : Ft} (h : TOwn w0 B w base g cap f) (hw : Below B w0 w) (ty : TypeId) {ks : Ft} {a : Option Addr} {c : Nat} (hs : TlIn w0 (· < B) ks a c) (hsz : f.len + ks.len ≤ 10000000) (hbase : base ≤ w.heap.size) :
    ∃ g' cap' w', (Builtin.append_ #[28, 28] ty #[.slice (some ⟨g, 0, none⟩) f.len cap, .slice a ks.len c]).run Tryz.prog w = .ok (.slice (some ⟨g', 0, none⟩) (f.len + ks.len) cap') w' ∧
      TOwn w0 B w' base g' cap' (f.app ks) ∧ w.grownBy w' (some g) ∧ (g' = g ∨ g' = w.heap.size) := by
  obtain ⟨xs, ho, hr⟩ := h
  obtain ⟨i0, hi, hz0, hz1, hz2⟩ := info_parts infoTerm
  have key : ∀ (ys : List Value), RepT w0 (· < B) ks ys → (∃ v' w', (Builtin.append_ #[28, 28] ty #[.slice (some ⟨g, 0, none⟩) f.len cap, .slice a ks.len c]).run Tryz.prog w = .ok v' w' ∧ w'.ownsRow base 30 4 v' (f.len + ks.len) (xs ++ ys) ∧
      w.grownBy w' (some g) ∧ v' ≠ .slice none 0 0 ∧ (v'.ownBlock = some g ∨ v'.ownBlock = some w.heap.size)) → ∃ g' cap' w', (Builtin.append_ #[28, 28] ty #[.slice (some ⟨g, 0, none⟩) f.len cap, .slice a ks.len c]).run Tryz.prog w = .ok (.slice (some ⟨g', 0, none⟩) (f.len + ks.len) cap') w' ∧
      TOwn w0 B w' base g' cap' (f.app ks) ∧ w.grownBy w' (some g) ∧ (g' = g ∨ g' = w.heap.size) := by
    rintro ys hy ⟨v', w', h1, h2, h3, h4, h5⟩
    rcases h2.2 with ⟨he, _⟩ | ⟨g', c', cur, hv, _⟩
    · exact absurd he h4
    · subst hv
      refine ⟨g', c', w', h1, ⟨xs ++ ys, by rw [Ft.app_len]; exact h2, hr.app hy⟩, h3, ?_⟩
      simpa [Value.ownBlock] using h5
  cases a with
  | none =>
    have hc : c = 0 := hs.2.2.1 rfl
    have hl : ks.len = 0 := by have := hs.1; omega
    have hk := Ft.len_zero hl
    subst hk
    refine key [] rfl ⟨.slice (some ⟨g, 0, none⟩) f.len cap, w, ?_, by simpa [Ft.len] using ho, ⟨rfl, rfl, rfl, Nat.le_refl _, fun _ _ _ => rfl⟩, (by simp), .inl rfl⟩
    have hle : f.len ≤ cap := by
      rcases ho.2 with ⟨he, _⟩ | ⟨g', c', cur, hv, hb, hh, hle, _⟩
      · cases he
      · injection hv with _ _ hv3; subst hv3; exact hle
    simp [Builtin.append_, run_underlying Tryz.underlying28, sizeOf, typeInfo, hi, Builtin.lenOf, Builtin.firstCells, hle, storeCells, Ft.len]
  | some x =>
    have hsrc : ∃ ys, RepT w0 (· < B) ks ys ∧ ∀ j u, ys[j]? = some u → w.cell? (x.add j) = some u := by
      rcases Nat.eq_zero_or_pos ks.len with h0 | h0
      · rw [Ft.len_zero h0]
        exact ⟨[], rfl, by simp⟩
      · obtain ⟨b, o, e, hbB, hf⟩ := hs.2.2.2 h0
        cases e
        obtain ⟨ys, hy, hc⟩ := RepT.of hf
        refine ⟨ys, hy, fun j u hu => ?_⟩
        have := hc j u hu
        have e : (⟨b, o, none⟩ : Addr).add j = ⟨b, o + j, none⟩ := by unfold Addr.add; split <;> simp_all
        rw [e, hw.cell (p := ⟨b, o + j, none⟩) hbB]; exact this
    obtain ⟨ys, hy, hc⟩ := hsrc
    obtain ⟨v', w', hrun, h2, h3, h4, h5⟩ := run_append_own_at (P := Tryz.prog) w base 28 ty 30 i0 _ 4 64 Tryz.underlying28 hi hz0 hz1 hz2 rfl (by omega) _ f.len xs ho x ks.len c ys hy.length hc hy.one (by unfold maxLen; omega) (by omega) hbase
    exact key ys hy ⟨v', w', hrun, h2, h3, (fun e => by have := (h4.1 e).1; cases this), h5⟩
end Go.Proofs.YtnfhpombnbpdcaaGreat
