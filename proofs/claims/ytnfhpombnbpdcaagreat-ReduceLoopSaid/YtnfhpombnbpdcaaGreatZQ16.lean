/- Tt. No condition but those that stand in each statement. -/
import Derived.Test.YtnfhpombnbpdcaaGreatZQ1
import Derived.Test.YtnfhpombnbpdcaaGreatZQ8
namespace Go.Proofs.YtnfhpombnbpdcaaGreat
open Go.RowKit
inductive Ft where
  | nil : Ft
  | cons (k n : Int) (ls : Fo) (kids rest : Ft) : Ft
  deriving DecidableEq
namespace Ft
def len : Ft → Nat
  | nil => 0
  | cons _ _ _ _ r => r.len + 1
def size : Ft → Nat
  | nil => 0
  | cons _ _ _ ks r => ks.size + r.size + 1
def app : Ft → Ft → Ft
  | nil, g => g
  | cons k n ls ks r, g => cons k n ls ks (r.app g)
theorem len_le_size : ∀ f : Ft, f.len ≤ f.size
  | nil => Nat.le_refl _
  | cons _ _ _ ks r => by have := len_le_size r; simp only [len, size]; omega
theorem len_zero : ∀ {f : Ft}, f.len = 0 → f = nil
  | nil, _ => rfl
  | cons .., h => by simp [len] at h
theorem app_len : ∀ f g : Ft, (f.app g).len = f.len + g.len
  | nil, g => by simp [app, len]
  | cons _ _ _ _ r, g => by simp [app, len, app_len r g]; omega
theorem app_size : ∀ f g : Ft, (f.app g).size = f.size + g.size
  | nil, g => by simp [app, size]
  | cons _ _ _ ks r, g => by simp [app, size, app_size r g]; omega
theorem app_nil : ∀ f : Ft, f.app .nil = f
  | .nil => rfl
  | .cons k n ls ks r => by show Ft.cons k n ls ks (r.app .nil) = _; rw [app_nil r]
theorem app_assoc : ∀ f g h : Ft, (f.app g).app h = f.app (g.app h)
  | .nil, _, _ => rfl
  | .cons k n ls ks r, g, h => by show Ft.cons k n ls ks ((r.app g).app h) = Ft.cons k n ls ks (r.app (g.app h)); rw [app_assoc r]
theorem snoc : ∀ {f : Ft}, 0 < f.len → ∃ (i : Ft) (k n : Int) (ls : Fo) (ks : Ft), f = i.app (cons k n ls ks nil)
  | nil, h => by simp [len] at h
  | cons k n ls ks nil, _ => ⟨nil, k, n, ls, ks, rfl⟩
  | cons k n ls ks (cons k' n' ls' ks' r), _ => by
    obtain ⟨i, k1, n1, ls1, ks1, h⟩ := snoc (f := cons k' n' ls' ks' r) (by simp [len])
    exact ⟨cons k n ls ks i, k1, n1, ls1, ks1, by rw [h]; rfl⟩
theorem app_eq : ∀ {i j g h : Ft}, i.len = j.len → (i.app g = j.app h ↔ i = j ∧ g = h)
  | nil, nil, g, h, _ => by simp [app]
  | nil, cons .., _, _, e => by simp [len] at e
  | cons .., nil, _, _, e => by simp [len] at e
  | cons k n ls ks r, cons k' n' ls' ks' r', g, h, e => by
    have := app_eq (i := r) (j := r') (g := g) (h := h) (by simpa [len] using e)
    simp only [app, cons.injEq, this]
    constructor
    · rintro ⟨a, b, c, d, e, f⟩; exact ⟨⟨a, b, c, d, e⟩, f⟩
    · rintro ⟨⟨a, b, c, d, e⟩, f⟩; exact ⟨a, b, c, d, e, f⟩
def lvsz (N : Nat) : Ft → Prop
  | nil => True
  | cons _ _ ls ks r => ls.size ≤ N ∧ ks.lvsz N ∧ r.lvsz N
theorem lvsz_app {N : Nat} : ∀ {f g : Ft}, (f.app g).lvsz N ↔ f.lvsz N ∧ g.lvsz N
  | nil, g => by simp [app, lvsz]
  | cons _ _ _ ks r, g => by simp only [app, lvsz, lvsz_app (f := r)]; constructor <;> (intro h; simp_all)
end Ft
def FtIn (w : World) (P : Nat → Prop) : Ft → Nat → Nat → Prop
  | .nil, _, _ => True
  | .cons k n ls kids rest, b, o => w.cell? ⟨b, o, none⟩ = some (.int .i64 k) ∧ w.cell? ⟨b, o + 1, none⟩ = some (.int .i64 n) ∧
      (∃ (a : Option Addr) (cap : Nat), w.cell? ⟨b, o + 2, none⟩ = some (.slice a ls.len cap) ∧ SlIn w P ls a cap) ∧
      (∃ (a : Option Addr) (cap : Nat), w.cell? ⟨b, o + 3, none⟩ = some (.slice a kids.len cap) ∧ kids.len ≤ cap ∧ cap ≤ maxLen ∧
        (a = none → cap = 0) ∧ (0 < kids.len → ∃ b' o', a = some ⟨b', o', none⟩ ∧ P b' ∧ FtIn w P kids b' o')) ∧
      FtIn w P rest b (o + 4)
def TlIn (w : World) (P : Nat → Prop) (f : Ft) (a : Option Addr) (cap : Nat) : Prop :=
  f.len ≤ cap ∧ cap ≤ maxLen ∧ (a = none → cap = 0) ∧ (0 < f.len → ∃ b' o', a = some ⟨b', o', none⟩ ∧ P b' ∧ FtIn w P f b' o')
theorem TlIn.some {w : World} {P : Nat → Prop} {f : Ft} {a : Option Addr} {cap : Nat} (h : TlIn w P f a cap) (hl : 0 < f.len) :
    ∃ b o, a = .some ⟨b, o, none⟩ ∧ P b ∧ FtIn w P f b o := h.2.2.2 hl
theorem TlIn.ftIn {w : World} {P : Nat → Prop} {f : Ft} {b o cap : Nat} (h : TlIn w P f (.some ⟨b, o, none⟩) cap) : FtIn w P f b o := by
  rcases Nat.eq_zero_or_pos f.len with h0 | h0
  · rw [Ft.len_zero h0]; trivial
  · obtain ⟨b', o', e, _, hf⟩ := h.2.2.2 h0
    cases e
    exact hf
theorem TlIn.len {w : World} {P : Nat → Prop} {f : Ft} {a : Option Addr} {cap : Nat} (h : TlIn w P f a cap) : f.len ≤ 9223372036854775807 := by
  have h1 := h.1
  have h2 := h.2.1
  unfold maxLen at h2
  omega
theorem FtIn.cells {w w' : World} {P Q : Nat → Prop} (hP : ∀ b, P b → w'.heap[b]? = w.heap[b]?) (hQ : ∀ b, P b → Q b) : ∀ (f : Ft) (b o : Nat), (∀ j, j < f.len * 4 → w'.cell? ⟨b, o + j, none⟩ = w.cell? ⟨b, o + j, none⟩) → FtIn w P f b o → FtIn w' Q f b o
  | .nil, _, _, _, _ => trivial
  | .cons k n ls kids rest, b, o, hc, hf => by
    obtain ⟨h1, h2, ⟨la, lc, h3, hs⟩, ⟨a, cap, h4, h5, h6, h7, h8⟩, h9⟩ := hf
    have hl : (Ft.cons k n ls kids rest).len * 4 = rest.len * 4 + 4 := by simp only [Ft.len]; omega
    refine ⟨(hc 0 (by omega)).trans h1, (hc 1 (by omega)).trans h2, ⟨la, lc, (hc 2 (by omega)).trans h3, (hs.keep hP).weak hQ⟩, ⟨a, cap, (hc 3 (by omega)).trans h4, h5, h6, h7, ?_⟩, FtIn.cells hP hQ rest b (o + 4) (fun j hj => ?_) h9⟩
    · intro hx
      obtain ⟨b', o', e, hb', hf'⟩ := h8 hx
      exact ⟨b', o', e, hQ _ hb', FtIn.cells hP hQ kids b' o' (fun j _ => World.cell?_of_block (w := w) (hP b' hb')) hf'⟩
    · have := hc (j + 4) (by omega)
      rwa [show o + 4 + j = o + (j + 4) by omega]
theorem FtIn.keep {w w' : World} {P : Nat → Prop} (hP : ∀ b, P b → w'.heap[b]? = w.heap[b]?) (f : Ft) (b o : Nat) (h : P b) (hf : FtIn w P f b o) : FtIn w' P f b o :=
  FtIn.cells hP (fun _ h => h) f b o (fun _ _ => World.cell?_of_block (w := w) (hP b h)) hf
theorem FtIn.below {w w' : World} {B : Nat} (hb : Below B w w') (f : Ft) (b o : Nat) (h : b < B) (hf : FtIn w (· < B) f b o) : FtIn w' (· < B) f b o :=
  FtIn.keep (fun b h => hb.block b h) f b o h hf
theorem TlIn.turn {w w' : World} {P Q : Nat → Prop} (hP : ∀ b, P b → w'.heap[b]? = w.heap[b]?) (hQ : ∀ b, P b → Q b) {f : Ft} {a : Option Addr} {cap : Nat} (h : TlIn w P f a cap) : TlIn w' Q f a cap := by
  obtain ⟨h1, h2, h3, h4⟩ := h
  refine ⟨h1, h2, h3, fun hx => ?_⟩
  obtain ⟨b', o', e, hb', hf'⟩ := h4 hx
  exact ⟨b', o', e, hQ _ hb', FtIn.cells hP hQ f b' o' (fun _ _ => World.cell?_of_block (w := w) (hP b' hb')) hf'⟩
theorem TlIn.keep {w w' : World} {P : Nat → Prop} (hP : ∀ b, P b → w'.heap[b]? = w.heap[b]?) {f : Ft} {a : Option Addr} {cap : Nat} (h : TlIn w P f a cap) : TlIn w' P f a cap := h.turn hP (fun _ h => h)
theorem TlIn.weak {w : World} {P Q : Nat → Prop} (hB : ∀ b, P b → Q b) {f : Ft} {a : Option Addr} {cap : Nat} (h : TlIn w P f a cap) : TlIn w Q f a cap := h.turn (fun _ _ => rfl) hB
theorem TlIn.below {w w' : World} {B : Nat} {f : Ft} {a : Option Addr} {cap : Nat} (hb : Below B w w') (h : TlIn w (· < B) f a cap) : TlIn w' (· < B) f a cap := h.keep (fun b h => hb.block b h)
theorem TlIn.mono {w : World} {B B' : Nat} (hB : B ≤ B') {f : Ft} {a : Option Addr} {cap : Nat} (h : TlIn w (· < B) f a cap) : TlIn w (· < B') f a cap := h.weak (fun _ h => Nat.lt_of_lt_of_le h hB)
theorem FtIn.first {w : World} {P : Nat → Prop} {k n : Int} {ls : Fo} {kids rest : Ft} {b o : Nat} (h : FtIn w P (.cons k n ls kids rest) b o) :
    w.cell? ⟨b, o, none⟩ = .some (.int .i64 k) ∧ w.cell? ⟨b, o + 1, none⟩ = .some (.int .i64 n) ∧
      (∃ (a : Option Addr) (cap : Nat), w.cell? ⟨b, o + 2, none⟩ = .some (.slice a ls.len cap) ∧ SlIn w P ls a cap) ∧
      (∃ (a : Option Addr) (cap : Nat), w.cell? ⟨b, o + 3, none⟩ = .some (.slice a kids.len cap) ∧ TlIn w P kids a cap) ∧ FtIn w P rest b (o + 4) := by
  obtain ⟨h1, h2, h3, ⟨a, cap, h4, h5, h6, h7, h8⟩, h9⟩ := h
  exact ⟨h1, h2, h3, ⟨a, cap, h4, h5, h6, h7, h8⟩, h9⟩
theorem FtIn.push {w : World} {P : Nat → Prop} {k n : Int} {ls : Fo} {kids rest : Ft} {b o lc cap : Nat} {la a : Option Addr} (h0 : w.cell? ⟨b, o, none⟩ = .some (.int .i64 k)) (h1 : w.cell? ⟨b, o + 1, none⟩ = .some (.int .i64 n))
    (h2 : w.cell? ⟨b, o + 2, none⟩ = .some (.slice la ls.len lc)) (hl : SlIn w P ls la lc) (h3 : w.cell? ⟨b, o + 3, none⟩ = .some (.slice a kids.len cap)) (hs : TlIn w P kids a cap) (hr : FtIn w P rest b (o + 4)) : FtIn w P (.cons k n ls kids rest) b o :=
  ⟨h0, h1, ⟨la, lc, h2, hl⟩, ⟨a, cap, h3, hs.1, hs.2.1, hs.2.2.1, hs.2.2.2⟩, hr⟩
theorem FtIn.behind {w : World} {P : Nat → Prop} : ∀ (G r : Ft) (b o : Nat), FtIn w P (G.app r) b o → FtIn w P r b (o + G.len * 4)
  | .nil, r, b, o, h => by simpa [Ft.len, Ft.app] using h
  | .cons k n ls ks G, r, b, o, h => by
    have h1 := FtIn.behind G r b (o + 4) h.2.2.2.2
    have e : o + (Ft.cons k n ls ks G).len * 4 = o + 4 + G.len * 4 := by simp only [Ft.len]; omega
    rwa [e]
theorem TlIn.none (w : World) (P : Nat → Prop) : TlIn w P .nil .none 0 := ⟨Nat.le_refl _, Nat.zero_le _, fun _ => rfl, fun hx => by simp [Ft.len] at hx⟩
theorem TlIn.mk {w : World} {P : Nat → Prop} {f : Ft} {b o cap : Nat} (h1 : f.len ≤ cap) (h2 : cap ≤ 1000000) (hP : P b) (hf : FtIn w P f b o) : TlIn w P f (.some ⟨b, o, .none⟩) cap :=
  ⟨h1, (by unfold maxLen; omega), (fun h => by cases h), (fun _ => ⟨b, o, rfl, hP, hf⟩)⟩
theorem TlIn.only {w w' : World} {B C : Nat} {f : Ft} {a : Option Addr} {cap : Nat} (hg : w.grownBy w' (Option.some C)) (hB : B ≤ C) (hC : C ≤ w.heap.size) (h : TlIn w (· < B) f a cap) : TlIn w' (· < B) f a cap :=
  h.keep (fun _ hb => Only.block hg (Nat.lt_of_lt_of_le hb (Nat.le_trans hB hC)) (Nat.ne_of_lt (Nat.lt_of_lt_of_le hb hB)))
theorem FtIn.only {w w' : World} {B C : Nat} {f : Ft} {b o : Nat} (hg : w.grownBy w' (some C)) (hB : B ≤ C) (hC : C ≤ w.heap.size) (hb : b < B) (h : FtIn w (· < B) f b o) : FtIn w' (· < B) f b o :=
  h.keep (fun _ hb => Only.block hg (Nat.lt_of_lt_of_le hb (Nat.le_trans hB hC)) (Nat.ne_of_lt (Nat.lt_of_lt_of_le hb hB))) _ _ _ hb
theorem cells4 {w : World} {b : Nat} {x y z u : Value} {t : TypeId} (h : w.heap[b]? = some (.cells #[x, y, z, u] t (0, 0))) :
    w.cell? ⟨b, 0, none⟩ = some x ∧ w.cell? ⟨b, 1, none⟩ = some y ∧ w.cell? ⟨b, 2, none⟩ = some z ∧ w.cell? ⟨b, 3, none⟩ = some u := by simp [World.cell?, h]
theorem set4_only {w : World} (R : Nat) (x y z u : Value) : w.grownBy ((((w.setCell ⟨R, 0, none⟩ x).setCell ⟨R, 1, none⟩ y).setCell ⟨R, 2, none⟩ z).setCell ⟨R, 3, none⟩ u) (some R) := Only.after (Only.after (Only.after (Only.set _ _ _ _) (Only.set _ _ _ _)) (Only.set _ _ _ _)) (Only.set _ _ _ _)
end Go.Proofs.YtnfhpombnbpdcaaGreat
