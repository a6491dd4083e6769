/- Tree. No condition but those that stand in each statement. -/
import Derived.Test.YtnfhpombnbpdcaaGreatRows
import Derived.WalkKit
import Derived.ProofKit
import Derived.OpenShut
import Derived.Below
import Derived.LoopTactic
import Derived.Lib.Hide
import Derived.IntWalk
import Derived.Deep.Draws
namespace Go.Proofs.YtnfhpombnbpdcaaGreat
open Go.RowKit
inductive Fo where
  | nil : Fo
  | cons (k n : Int) (kids rest : Fo) : Fo
  deriving DecidableEq
namespace Fo
def len : Fo → Nat
  | nil => 0
  | cons _ _ _ r => r.len + 1
def size : Fo → Nat
  | nil => 0
  | cons _ _ ks r => ks.size + r.size + 1
theorem len_le_size : ∀ f : Fo, f.len ≤ f.size
  | nil => Nat.le_refl _
  | cons _ _ ks r => by have := len_le_size r; simp only [len, size]; omega
theorem len_zero : ∀ {f : Fo}, f.len = 0 → f = nil
  | nil, _ => rfl
  | cons .., h => by simp [len] at h
end Fo
def FoIn (w : World) (P : Nat → Prop) : Fo → Nat → Nat → Prop
  | .nil, _, _ => True
  | .cons k n kids rest, b, o => w.cell? ⟨b, o, none⟩ = some (.int .i64 k) ∧ w.cell? ⟨b, o + 1, none⟩ = some (.int .i64 n) ∧
      (∃ (a : Option Addr) (cap : Nat), w.cell? ⟨b, o + 2, none⟩ = some (.slice a kids.len cap) ∧ kids.len ≤ cap ∧ cap ≤ maxLen ∧
        (a = none → cap = 0) ∧ (0 < kids.len → ∃ b' o', a = some ⟨b', o', none⟩ ∧ P b' ∧ FoIn w P kids b' o')) ∧
      FoIn w P rest b (o + 3)
def SlIn (w : World) (P : Nat → Prop) (f : Fo) (a : Option Addr) (cap : Nat) : Prop :=
  f.len ≤ cap ∧ cap ≤ maxLen ∧ (a = none → cap = 0) ∧ (0 < f.len → ∃ b' o', a = some ⟨b', o', none⟩ ∧ P b' ∧ FoIn w P f b' o')
theorem SlIn.some {w : World} {P : Nat → Prop} {f : Fo} {a : Option Addr} {cap : Nat} (h : SlIn w P f a cap) (hl : 0 < f.len) :
    ∃ b o, a = .some ⟨b, o, none⟩ ∧ P b ∧ FoIn w P f b o := h.2.2.2 hl
theorem SlIn.foIn {w : World} {P : Nat → Prop} {f : Fo} {b o cap : Nat} (h : SlIn w P f (.some ⟨b, o, none⟩) cap) : FoIn w P f b o := by
  rcases Nat.eq_zero_or_pos f.len with h0 | h0
  · rw [Fo.len_zero h0]; trivial
  · obtain ⟨b', o', e, _, hf⟩ := h.2.2.2 h0
    cases e
    exact hf
theorem SlIn.len {w : World} {P : Nat → Prop} {f : Fo} {a : Option Addr} {cap : Nat} (h : SlIn w P f a cap) : f.len ≤ 9223372036854775807 := by
  have h1 := h.1
  have h2 := h.2.1
  unfold maxLen at h2
  omega
theorem FoIn.keep {w w' : World} {P : Nat → Prop} (hP : ∀ b, P b → w'.heap[b]? = w.heap[b]?) : ∀ (f : Fo) (b o : Nat), P b → FoIn w P f b o → FoIn w' P f b o
  | .nil, _, _, _, _ => trivial
  | .cons k n kids rest, b, o, h, hf => by
    obtain ⟨h1, h2, ⟨a, cap, h3, h4, h5, h6, h7⟩, h8⟩ := hf
    have hc : ∀ o, w'.cell? ⟨b, o, none⟩ = w.cell? ⟨b, o, none⟩ := fun o => World.cell?_of_block (w := w) (hP b h)
    refine ⟨(hc o).trans h1, (hc (o + 1)).trans h2, ⟨a, cap, (hc (o + 2)).trans h3, h4, h5, h6, ?_⟩, FoIn.keep hP rest b (o + 3) h h8⟩
    intro hx
    obtain ⟨b', o', e, hb', hf'⟩ := h7 hx
    exact ⟨b', o', e, hb', FoIn.keep hP kids b' o' hb' hf'⟩
theorem FoIn.weak {w : World} {P Q : Nat → Prop} (hB : ∀ b, P b → Q b) : ∀ (f : Fo) (b o : Nat), FoIn w P f b o → FoIn w Q f b o
  | .nil, _, _, _ => trivial
  | .cons k n kids rest, b, o, hf => by
    obtain ⟨h1, h2, ⟨a, cap, h3, h4, h5, h6, h7⟩, h8⟩ := hf
    refine ⟨h1, h2, ⟨a, cap, h3, h4, h5, h6, ?_⟩, FoIn.weak hB rest b (o + 3) h8⟩
    intro hx
    obtain ⟨b', o', e, hb', hf'⟩ := h7 hx
    exact ⟨b', o', e, hB _ hb', FoIn.weak hB kids b' o' hf'⟩
theorem FoIn.below {w w' : World} {B : Nat} (hb : Below B w w') (f : Fo) (b o : Nat) (h : b < B) (hf : FoIn w (· < B) f b o) : FoIn w' (· < B) f b o :=
  FoIn.keep (fun b h => hb.block b h) f b o h hf
theorem SlIn.keep {w w' : World} {P : Nat → Prop} (hP : ∀ b, P b → w'.heap[b]? = w.heap[b]?) {f : Fo} {a : Option Addr} {cap : Nat} (h : SlIn w P f a cap) : SlIn w' P f a cap := by
  obtain ⟨h1, h2, h3, h4⟩ := h
  refine ⟨h1, h2, h3, fun hx => ?_⟩
  obtain ⟨b', o', e, hb', hf'⟩ := h4 hx
  exact ⟨b', o', e, hb', FoIn.keep hP f b' o' hb' hf'⟩
theorem SlIn.weak {w : World} {P Q : Nat → Prop} (hB : ∀ b, P b → Q b) {f : Fo} {a : Option Addr} {cap : Nat} (h : SlIn w P f a cap) : SlIn w Q f a cap := by
  obtain ⟨h1, h2, h3, h4⟩ := h
  refine ⟨h1, h2, h3, fun hx => ?_⟩
  obtain ⟨b', o', e, hb', hf'⟩ := h4 hx
  exact ⟨b', o', e, hB _ hb', FoIn.weak hB f b' o' hf'⟩
theorem SlIn.below {w w' : World} {B : Nat} {f : Fo} {a : Option Addr} {cap : Nat} (hb : Below B w w') (h : SlIn w (· < B) f a cap) : SlIn w' (· < B) f a cap := h.keep (fun b h => hb.block b h)
theorem SlIn.mono {w : World} {B B' : Nat} (hB : B ≤ B') {f : Fo} {a : Option Addr} {cap : Nat} (h : SlIn w (· < B) f a cap) : SlIn w (· < B') f a cap := h.weak (fun _ h => Nat.lt_of_lt_of_le h hB)
theorem FoIn.first {w : World} {P : Nat → Prop} {k n : Int} {kids rest : Fo} {b o : Nat} (h : FoIn w P (.cons k n kids rest) b o) :
    w.cell? ⟨b, o, none⟩ = .some (.int .i64 k) ∧ w.cell? ⟨b, o + 1, none⟩ = .some (.int .i64 n) ∧
      (∃ (a : Option Addr) (cap : Nat), w.cell? ⟨b, o + 2, none⟩ = .some (.slice a kids.len cap) ∧ SlIn w P kids a cap) ∧ FoIn w P rest b (o + 3) := by
  obtain ⟨h1, h2, ⟨a, cap, h3, h4, h5, h6, h7⟩, h8⟩ := h
  exact ⟨h1, h2, ⟨a, cap, h3, h4, h5, h6, h7⟩, h8⟩
theorem FoIn.push {w : World} {P : Nat → Prop} {k n : Int} {kids rest : Fo} {b o cap : Nat} {a : Option Addr} (h0 : w.cell? ⟨b, o, none⟩ = .some (.int .i64 k)) (h1 : w.cell? ⟨b, o + 1, none⟩ = .some (.int .i64 n))
    (h2 : w.cell? ⟨b, o + 2, none⟩ = .some (.slice a kids.len cap)) (hs : SlIn w P kids a cap) (hr : FoIn w P rest b (o + 3)) : FoIn w P (.cons k n kids rest) b o :=
  ⟨h0, h1, ⟨a, cap, h2, hs.1, hs.2.1, hs.2.2.1, hs.2.2.2⟩, hr⟩
theorem SlIn.none (w : World) (P : Nat → Prop) : SlIn w P .nil .none 0 := ⟨Nat.le_refl _, Nat.zero_le _, fun _ => rfl, fun hx => by simp [Fo.len] at hx⟩
theorem SlIn.mk {w : World} {P : Nat → Prop} {f : Fo} {b o cap : Nat} (h1 : f.len ≤ cap) (h2 : cap ≤ 1000000) (hP : P b) (hf : FoIn w P f b o) : SlIn w P f (.some ⟨b, o, .none⟩) cap :=
  ⟨h1, (by unfold maxLen; omega), (fun h => by cases h), (fun _ => ⟨b, o, rfl, hP, hf⟩)⟩
theorem bcell {W w1 : World} {B : Nat} (hb : Below B W w1) (b o : Nat) (h : b < B) : w1.cell? ⟨b, o, none⟩ = W.cell? ⟨b, o, none⟩ := hb.cell (p := ⟨b, o, none⟩) h
theorem Below.step {B : Nat} {a b c : World} (h : Below B a b) (k : Below b.heap.size b c) (hB : B ≤ a.heap.size) : Below B a c :=
  h.trans (k.mono (Nat.le_trans hB h.size))
theorem cells3 {w : World} {b : Nat} {x y z : Value} {t : TypeId} (h : w.heap[b]? = some (.cells #[x, y, z] t (0, 0))) :
    w.cell? ⟨b, 0, none⟩ = some x ∧ w.cell? ⟨b, 1, none⟩ = some y ∧ w.cell? ⟨b, 2, none⟩ = some z := by simp [World.cell?, h]
theorem free_of {w : World} {b : Nat} {cs : Array Value} {t : TypeId} (h : w.heap[b]? = some (.cells cs t (0, 0))) (o : Nat) : w.frozen? ⟨b, o, none⟩ = false := by simp [World.frozen?, h]
theorem set3 {w : World} {b : Nat} {x y z x' y' z' : Value} {t : TypeId} (h : w.heap[b]? = some (.cells #[x, y, z] t (0, 0))) :
    (((w.setCell ⟨b, 0, none⟩ x').setCell ⟨b, 1, none⟩ y').setCell ⟨b, 2, none⟩ z').heap[b]? = some (.cells #[x', y', z'] t (0, 0)) := by
  have hlt := lt_of_block h
  have h' : w.heap[b] = .cells #[x, y, z] t (0, 0) := by simpa [Array.getElem?_eq_getElem hlt] using h
  simp only [World.setCell, Array.getElem?_modify, if_true, h]
  rfl
theorem Below.draws {B : Nat} {a w : World} (h : Below B a w) (n : Nat) : Below B a (w.drewN n) := h.trans ⟨rfl, rfl, rfl, Nat.le_refl _, fun _ _ => rfl⟩
theorem Only.block {w w' : World} {C b : Nat} (h : w.grownBy w' (some C)) (hb : b < w.heap.size) (hne : b ≠ C) : w'.heap[b]? = w.heap[b]? := h.block b hb (fun e => hne (by injection e))
theorem Only.after {w w' w'' : World} {C : Nat} (h : w.grownBy w' (some C)) (k : w'.grownBy w'' (some C)) : w.grownBy w'' (some C) :=
  ⟨k.os.trans h.os, k.tape.trans h.tape, k.output.trans h.output, Nat.le_trans h.size k.size, fun i hi hne => (k.block i (Nat.lt_of_lt_of_le hi h.size) hne).trans (h.block i hi hne)⟩
theorem Only.below {w w' : World} (C : Nat) (h : Below w.heap.size w w') : w.grownBy w' (some C) := ⟨h.os, h.tape, h.output, h.size, fun i hi _ => h.block i hi⟩
theorem Only.alloc (w : World) (C : Nat) (o : Obj) : w.grownBy (w.alloc o) (some C) := Only.below C ((Below.refl _ _).alloc (Nat.le_refl _) o)
theorem Only.set (w : World) (C o : Nat) (v : Value) : w.grownBy (w.setCell ⟨C, o, none⟩ v) (some C) :=
  ⟨rfl, rfl, rfl, by simp, fun i _ hne => Below.heap_setCell _ _ _ _ (fun e => hne (by rw [e]))⟩
theorem SlIn.only {w w' : World} {B C : Nat} {f : Fo} {a : Option Addr} {cap : Nat} (hg : w.grownBy w' (Option.some C)) (hB : B ≤ C) (hC : C ≤ w.heap.size) (h : SlIn w (· < B) f a cap) : SlIn w' (· < B) f a cap :=
  h.keep (fun _ hb => Only.block hg (Nat.lt_of_lt_of_le hb (Nat.le_trans hB hC)) (Nat.ne_of_lt (Nat.lt_of_lt_of_le hb hB)))
theorem FoIn.only {w w' : World} {B C : Nat} {f : Fo} {b o : Nat} (hg : w.grownBy w' (some C)) (hB : B ≤ C) (hC : C ≤ w.heap.size) (hb : b < B) (h : FoIn w (· < B) f b o) : FoIn w' (· < B) f b o :=
  h.keep (fun _ hb => Only.block hg (Nat.lt_of_lt_of_le hb (Nat.le_trans hB hC)) (Nat.ne_of_lt (Nat.lt_of_lt_of_le hb hB))) _ _ _ hb
theorem heap_new (w : World) (o : Obj) : (w.alloc o).heap[w.heap.size]? = some o := by show (w.heap.push o)[w.heap.size]? = _; simp
theorem heap_second (w : World) (o o' : Obj) : ((w.alloc o).alloc o').heap[w.heap.size + 1]? = some o' := by
  have := heap_new (w.alloc o) o'
  simpa using this
theorem heap_old (w : World) (o : Obj) {b : Nat} (h : b < w.heap.size) : (w.alloc o).heap[b]? = w.heap[b]? := Below.heap_alloc w o b h
end Go.Proofs.YtnfhpombnbpdcaaGreat
