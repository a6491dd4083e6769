/- Forests of levels, as plain data: how many levels they have, how they lie in memory, and that they lie there still when only other memory has changed. No condition. -/
import Derived.Test.YtglggigndhbpcaaRows
import Derived.WalkKit
import Derived.ProofKit
import Derived.OpenShut
import Derived.Below
import Derived.LoopTactic
import Derived.Lib.Hide
import Derived.IntWalk
import Derived.Deep.Draws
namespace Go.Proofs.Ytglggigndhbpcaa
open Go.RowKit

/-- A list of levels: the first one's Kind, N and Kids, and the rest. -/
inductive Fo where
  | nil : Fo
  | cons (k n : Int) (kids rest : Fo) : Fo
  deriving DecidableEq

namespace Fo
def len : Fo → Nat
  | nil => 0
  | cons _ _ _ r => r.len + 1
def size : Fo → Nat
  | nil => 0
  | cons _ _ ks r => ks.size + r.size + 1
theorem len_le_size : ∀ f : Fo, f.len ≤ f.size
  | nil => Nat.le_refl _
  | cons _ _ ks r => by have := len_le_size r; simp only [len, size]; omega
theorem len_zero : ∀ {f : Fo}, f.len = 0 → f = nil
  | nil, _ => rfl
  | cons .., h => by simp [len] at h
end Fo

/-- The levels of a forest lie one behind the other from the place (b, o) on, and the Kids of each where its slice says; all their blocks are such as P says. -/
def FoIn (w : World) (P : Nat → Prop) : Fo → Nat → Nat → Prop
  | .nil, _, _ => True
  | .cons k n kids rest, b, o => w.cell? ⟨b, o, none⟩ = some (.int .i64 k) ∧ w.cell? ⟨b, o + 1, none⟩ = some (.int .i64 n) ∧
      (∃ (a : Option Addr) (cap : Nat), w.cell? ⟨b, o + 2, none⟩ = some (.slice a kids.len cap) ∧ kids.len ≤ cap ∧ cap ≤ maxLen ∧
        (a = none → cap = 0) ∧ (0 < kids.len → ∃ b' o', a = some ⟨b', o', none⟩ ∧ P b' ∧ FoIn w P kids b' o')) ∧
      FoIn w P rest b (o + 3)

/-- The slice (a, cap) holds the forest. -/
def SlIn (w : World) (P : Nat → Prop) (f : Fo) (a : Option Addr) (cap : Nat) : Prop :=
  f.len ≤ cap ∧ cap ≤ maxLen ∧ (a = none → cap = 0) ∧ (0 < f.len → ∃ b' o', a = some ⟨b', o', none⟩ ∧ P b' ∧ FoIn w P f b' o')

theorem SlIn.some {w : World} {P : Nat → Prop} {f : Fo} {a : Option Addr} {cap : Nat} (h : SlIn w P f a cap) (hl : 0 < f.len) :
    ∃ b o, a = .some ⟨b, o, none⟩ ∧ P b ∧ FoIn w P f b o := h.2.2.2 hl
theorem SlIn.foIn {w : World} {P : Nat → Prop} {f : Fo} {b o cap : Nat} (h : SlIn w P f (.some ⟨b, o, none⟩) cap) : FoIn w P f b o := by
  rcases Nat.eq_zero_or_pos f.len with h0 | h0
  · rw [Fo.len_zero h0]; trivial
  · obtain ⟨b', o', e, _, hf⟩ := h.2.2.2 h0
    cases e
    exact hf
theorem SlIn.len {w : World} {P : Nat → Prop} {f : Fo} {a : Option Addr} {cap : Nat} (h : SlIn w P f a cap) : f.len ≤ 9223372036854775807 := by
  have h1 := h.1
  have h2 := h.2.1
  unfold maxLen at h2
  omega

theorem FoIn.keep {w w' : World} {P : Nat → Prop} (hP : ∀ b, P b → w'.heap[b]? = w.heap[b]?) : ∀ (f : Fo) (b o : Nat), P b → FoIn w P f b o → FoIn w' P f b o
  | .nil, _, _, _, _ => trivial
  | .cons k n kids rest, b, o, h, hf => by
    obtain ⟨h1, h2, ⟨a, cap, h3, h4, h5, h6, h7⟩, h8⟩ := hf
    have hc : ∀ o, w'.cell? ⟨b, o, none⟩ = w.cell? ⟨b, o, none⟩ := fun o => World.cell?_of_block (w := w) (hP b h)
    refine ⟨(hc o).trans h1, (hc (o + 1)).trans h2, ⟨a, cap, (hc (o + 2)).trans h3, h4, h5, h6, ?_⟩, FoIn.keep hP rest b (o + 3) h h8⟩
    intro hx
    obtain ⟨b', o', e, hb', hf'⟩ := h7 hx
    exact ⟨b', o', e, hb', FoIn.keep hP kids b' o' hb' hf'⟩
theorem FoIn.weak {w : World} {P Q : Nat → Prop} (hB : ∀ b, P b → Q b) : ∀ (f : Fo) (b o : Nat), FoIn w P f b o → FoIn w Q f b o
  | .nil, _, _, _ => trivial
  | .cons k n kids rest, b, o, hf => by
    obtain ⟨h1, h2, ⟨a, cap, h3, h4, h5, h6, h7⟩, h8⟩ := hf
    refine ⟨h1, h2, ⟨a, cap, h3, h4, h5, h6, ?_⟩, FoIn.weak hB rest b (o + 3) h8⟩
    intro hx
    obtain ⟨b', o', e, hb', hf'⟩ := h7 hx
    exact ⟨b', o', e, hB _ hb', FoIn.weak hB kids b' o' hf'⟩
theorem FoIn.below {w w' : World} {B : Nat} (hb : Below B w w') (f : Fo) (b o : Nat) (h : b < B) (hf : FoIn w (· < B) f b o) : FoIn w' (· < B) f b o :=
  FoIn.keep (fun b h => hb.block b h) f b o h hf
theorem SlIn.keep {w w' : World} {P : Nat → Prop} (hP : ∀ b, P b → w'.heap[b]? = w.heap[b]?) {f : Fo} {a : Option Addr} {cap : Nat} (h : SlIn w P f a cap) : SlIn w' P f a cap := by
  obtain ⟨h1, h2, h3, h4⟩ := h
  refine ⟨h1, h2, h3, fun hx => ?_⟩
  obtain ⟨b', o', e, hb', hf'⟩ := h4 hx
  exact ⟨b', o', e, hb', FoIn.keep hP f b' o' hb' hf'⟩
theorem SlIn.weak {w : World} {P Q : Nat → Prop} (hB : ∀ b, P b → Q b) {f : Fo} {a : Option Addr} {cap : Nat} (h : SlIn w P f a cap) : SlIn w Q f a cap := by
  obtain ⟨h1, h2, h3, h4⟩ := h
  refine ⟨h1, h2, h3, fun hx => ?_⟩
  obtain ⟨b', o', e, hb', hf'⟩ := h4 hx
  exact ⟨b', o', e, hB _ hb', FoIn.weak hB f b' o' hf'⟩
theorem SlIn.below {w w' : World} {B : Nat} {f : Fo} {a : Option Addr} {cap : Nat} (hb : Below B w w') (h : SlIn w (· < B) f a cap) : SlIn w' (· < B) f a cap := h.keep (fun b h => hb.block b h)
theorem SlIn.mono {w : World} {B B' : Nat} (hB : B ≤ B') {f : Fo} {a : Option Addr} {cap : Nat} (h : SlIn w (· < B) f a cap) : SlIn w (· < B') f a cap := h.weak (fun _ h => Nat.lt_of_lt_of_le h hB)
/-- The forest's first level: its cells, and its Kids' slice. -/
theorem FoIn.first {w : World} {P : Nat → Prop} {k n : Int} {kids rest : Fo} {b o : Nat} (h : FoIn w P (.cons k n kids rest) b o) :
    w.cell? ⟨b, o, none⟩ = .some (.int .i64 k) ∧ w.cell? ⟨b, o + 1, none⟩ = .some (.int .i64 n) ∧
      (∃ (a : Option Addr) (cap : Nat), w.cell? ⟨b, o + 2, none⟩ = .some (.slice a kids.len cap) ∧ SlIn w P kids a cap) ∧ FoIn w P rest b (o + 3) := by
  obtain ⟨h1, h2, ⟨a, cap, h3, h4, h5, h6, h7⟩, h8⟩ := h
  exact ⟨h1, h2, ⟨a, cap, h3, h4, h5, h6, h7⟩, h8⟩
/-- A level ahead of a forest. -/
theorem FoIn.push {w : World} {P : Nat → Prop} {k n : Int} {kids rest : Fo} {b o cap : Nat} {a : Option Addr} (h0 : w.cell? ⟨b, o, none⟩ = .some (.int .i64 k)) (h1 : w.cell? ⟨b, o + 1, none⟩ = .some (.int .i64 n))
    (h2 : w.cell? ⟨b, o + 2, none⟩ = .some (.slice a kids.len cap)) (hs : SlIn w P kids a cap) (hr : FoIn w P rest b (o + 3)) : FoIn w P (.cons k n kids rest) b o :=
  ⟨h0, h1, ⟨a, cap, h2, hs.1, hs.2.1, hs.2.2.1, hs.2.2.2⟩, hr⟩
theorem SlIn.none (w : World) (P : Nat → Prop) : SlIn w P .nil .none 0 := ⟨Nat.le_refl _, Nat.zero_le _, fun _ => rfl, fun hx => by simp [Fo.len] at hx⟩
theorem SlIn.mk {w : World} {P : Nat → Prop} {f : Fo} {b o cap : Nat} (h1 : f.len ≤ cap) (h2 : cap ≤ 1000000) (hP : P b) (hf : FoIn w P f b o) : SlIn w P f (.some ⟨b, o, .none⟩) cap :=
  ⟨h1, (by unfold maxLen; omega), (fun h => by cases h), (fun _ => ⟨b, o, rfl, hP, hf⟩)⟩

/-- Old cells read as before. -/
theorem bcell {W w1 : World} {B : Nat} (hb : Below B W w1) (b o : Nat) (h : b < B) : w1.cell? ⟨b, o, none⟩ = W.cell? ⟨b, o, none⟩ := hb.cell (p := ⟨b, o, none⟩) h
theorem Below.step {B : Nat} {a b c : World} (h : Below B a b) (k : Below b.heap.size b c) (hB : B ≤ a.heap.size) : Below B a c :=
  h.trans (k.mono (Nat.le_trans hB h.size))

/-- A block of three cells, known whole: a level in a variable. -/
theorem cells3 {w : World} {b : Nat} {x y z : Value} {t : TypeId} (h : w.heap[b]? = some (.cells #[x, y, z] t (0, 0))) :
    w.cell? ⟨b, 0, none⟩ = some x ∧ w.cell? ⟨b, 1, none⟩ = some y ∧ w.cell? ⟨b, 2, none⟩ = some z := by simp [World.cell?, h]
theorem free_of {w : World} {b : Nat} {cs : Array Value} {t : TypeId} (h : w.heap[b]? = some (.cells cs t (0, 0))) (o : Nat) : w.frozen? ⟨b, o, none⟩ = false := by simp [World.frozen?, h]
theorem set3 {w : World} {b : Nat} {x y z x' y' z' : Value} {t : TypeId} (h : w.heap[b]? = some (.cells #[x, y, z] t (0, 0))) :
    (((w.setCell ⟨b, 0, none⟩ x').setCell ⟨b, 1, none⟩ y').setCell ⟨b, 2, none⟩ z').heap[b]? = some (.cells #[x', y', z'] t (0, 0)) := by
  have hlt := lt_of_block h
  have h' : w.heap[b] = .cells #[x, y, z] t (0, 0) := by simpa [Array.getElem?_eq_getElem hlt] using h
  simp only [World.setCell, Array.getElem?_modify, if_true, h]
  rfl
theorem Below.draws {B : Nat} {a w : World} (h : Below B a w) (n : Nat) : Below B a (w.drewN n) := h.trans ⟨rfl, rfl, rfl, Nat.le_refl _, fun _ _ => rfl⟩
theorem Below.heap {B : Nat} {w w' : World} (h : Below B w w') {b : Nat} (hb : b < B) : w'.heap[b]? = w.heap[b]? := h.block b hb
/-- Only the block C, and what is new, has changed. -/
theorem Only.block {w w' : World} {C b : Nat} (h : w.grownBy w' (some C)) (hb : b < w.heap.size) (hne : b ≠ C) : w'.heap[b]? = w.heap[b]? := h.block b hb (fun e => hne (by injection e))
theorem Only.after {w w' w'' : World} {C : Nat} (h : w.grownBy w' (some C)) (k : w'.grownBy w'' (some C)) : w.grownBy w'' (some C) :=
  ⟨k.os.trans h.os, k.tape.trans h.tape, k.output.trans h.output, Nat.le_trans h.size k.size, fun i hi hne => (k.block i (Nat.lt_of_lt_of_le hi h.size) hne).trans (h.block i hi hne)⟩
theorem Only.below {w w' : World} (C : Nat) (h : Below w.heap.size w w') : w.grownBy w' (some C) := ⟨h.os, h.tape, h.output, h.size, fun i hi _ => h.block i hi⟩
theorem Only.alloc (w : World) (C : Nat) (o : Obj) : w.grownBy (w.alloc o) (some C) := Only.below C ((Below.refl _ _).alloc (Nat.le_refl _) o)
theorem Only.set (w : World) (C o : Nat) (v : Value) : w.grownBy (w.setCell ⟨C, o, none⟩ v) (some C) :=
  ⟨rfl, rfl, rfl, by simp, fun i _ hne => Below.heap_setCell _ _ _ _ (fun e => hne (by rw [e]))⟩
theorem SlIn.only {w w' : World} {B C : Nat} {f : Fo} {a : Option Addr} {cap : Nat} (hg : w.grownBy w' (Option.some C)) (hB : B ≤ C) (hC : C ≤ w.heap.size) (h : SlIn w (· < B) f a cap) : SlIn w' (· < B) f a cap :=
  h.keep (fun _ hb => Only.block hg (Nat.lt_of_lt_of_le hb (Nat.le_trans hB hC)) (Nat.ne_of_lt (Nat.lt_of_lt_of_le hb hB)))
theorem FoIn.only {w w' : World} {B C : Nat} {f : Fo} {b o : Nat} (hg : w.grownBy w' (some C)) (hB : B ≤ C) (hC : C ≤ w.heap.size) (hb : b < B) (h : FoIn w (· < B) f b o) : FoIn w' (· < B) f b o :=
  h.keep (fun _ hb => Only.block hg (Nat.lt_of_lt_of_le hb (Nat.le_trans hB hC)) (Nat.ne_of_lt (Nat.lt_of_lt_of_le hb hB))) _ _ _ hb
theorem heap_new (w : World) (o : Obj) : (w.alloc o).heap[w.heap.size]? = some o := by show (w.heap.push o)[w.heap.size]? = _; simp
theorem heap_second (w : World) (o o' : Obj) : ((w.alloc o).alloc o').heap[w.heap.size + 1]? = some o' := by
  have := heap_new (w.alloc o) o'
  simpa using this
theorem heap_old (w : World) (o : Obj) {b : Nat} (h : b < w.heap.size) : (w.alloc o).heap[b]? = w.heap[b]? := Below.heap_alloc w o b h
end Go.Proofs.Ytglggigndhbpcaa
/- Lists of numbers in memory, and whether all are from 0 to 2^40. No condition but those that stand in each statement. -/
namespace Go.Proofs.Ytglggigndhbpcaa
open Go.RowKit

/-- The slice (a, cap) holds the numbers. -/
def IntsIn (w : World) (P : Nat → Prop) (l : List Int) (a : Option Addr) (cap : Nat) : Prop :=
  l.length ≤ cap ∧ cap ≤ maxLen ∧ (a = none → cap = 0) ∧ (0 < l.length → ∃ b o, a = some ⟨b, o, none⟩ ∧ P b ∧ ∀ i, i < l.length → w.cell? ⟨b, o + i, none⟩ = some (.int .i64 (l.getD i 0)))
theorem IntsIn.some {w : World} {P : Nat → Prop} {l : List Int} {a : Option Addr} {cap : Nat} (h : IntsIn w P l a cap) (hl : 0 < l.length) :
    ∃ b o, a = .some ⟨b, o, none⟩ ∧ P b ∧ ∀ i, i < l.length → w.cell? ⟨b, o + i, none⟩ = .some (.int .i64 (l.getD i 0)) := h.2.2.2 hl
theorem IntsIn.len {w : World} {P : Nat → Prop} {l : List Int} {a : Option Addr} {cap : Nat} (h : IntsIn w P l a cap) : l.length ≤ 9223372036854775807 := by
  have h1 := h.1
  have h2 := h.2.1
  unfold maxLen at h2
  omega
theorem IntsIn.keep {w w' : World} {P : Nat → Prop} (hP : ∀ b, P b → w'.heap[b]? = w.heap[b]?) {l : List Int} {a : Option Addr} {cap : Nat} (h : IntsIn w P l a cap) : IntsIn w' P l a cap := by
  obtain ⟨h1, h2, h3, h4⟩ := h
  refine ⟨h1, h2, h3, fun hx => ?_⟩
  obtain ⟨b, o, e, hb, hf⟩ := h4 hx
  exact ⟨b, o, e, hb, fun i hi => (World.cell?_of_block (w := w) (hP b hb)).trans (hf i hi)⟩
theorem IntsIn.weak {w : World} {P Q : Nat → Prop} (hB : ∀ b, P b → Q b) {l : List Int} {a : Option Addr} {cap : Nat} (h : IntsIn w P l a cap) : IntsIn w Q l a cap := by
  obtain ⟨h1, h2, h3, h4⟩ := h
  refine ⟨h1, h2, h3, fun hx => ?_⟩
  obtain ⟨b, o, e, hb, hf⟩ := h4 hx
  exact ⟨b, o, e, hB _ hb, hf⟩
theorem IntsIn.below {w w' : World} {B : Nat} {l : List Int} {a : Option Addr} {cap : Nat} (hb : Below B w w') (h : IntsIn w (· < B) l a cap) : IntsIn w' (· < B) l a cap := h.keep (fun b h => hb.block b h)
theorem IntsIn.none (w : World) (P : Nat → Prop) : IntsIn w P [] .none 0 := ⟨Nat.le_refl _, Nat.zero_le _, fun _ => rfl, fun hx => by simp at hx⟩
theorem IntsIn.mk {w : World} {P : Nat → Prop} {l : List Int} {b o cap : Nat} (h1 : l.length ≤ cap) (h2 : cap ≤ 1000000) (hP : P b) (hf : ∀ i, i < l.length → w.cell? ⟨b, o + i, .none⟩ = .some (.int .i64 (l.getD i 0))) : IntsIn w P l (.some ⟨b, o, .none⟩) cap :=
  ⟨h1, (by unfold maxLen; omega), (fun h => by cases h), (fun _ => ⟨b, o, rfl, hP, hf⟩)⟩

/-- All are from 0 to 2^40. -/
def natsB (l : List Int) : Bool := l.all fun x => decide (0 ≤ x) && decide (x ≤ 1099511627776)
theorem natsB_drop {l : List Int} {k : Nat} (h : k < l.length) : natsB (l.drop k) = ((decide (0 ≤ l.getD k 0) && decide (l.getD k 0 ≤ 1099511627776)) && natsB (l.drop (k + 1))) := by
  rw [List.drop_eq_getElem_cons h]
  have : l.getD k 0 = l[k] := by simp [List.getD_eq_getElem?_getD, h]
  rw [this]
  rfl
theorem natsB_end {l : List Int} {k : Nat} (h : ¬ k < l.length) : natsB (l.drop k) = true := by
  rw [List.drop_eq_nil_of_le (by omega)]; rfl
theorem natsB_low {l : List Int} {k : Nat} (h : k < l.length) (h1 : l.getD k 0 < 0) : natsB (l.drop k) = false := by
  rw [natsB_drop h, decide_eq_false (by omega)]; rfl
theorem natsB_high {l : List Int} {k : Nat} (h : k < l.length) (h1 : 1099511627776 < l.getD k 0) : natsB (l.drop k) = false := by
  rw [natsB_drop h, decide_eq_false (p := l.getD k 0 ≤ 1099511627776) (by omega)]; simp
theorem natsB_next {l : List Int} {k : Nat} (h : k < l.length) (h1 : ¬ l.getD k 0 < 0) (h2 : ¬ 1099511627776 < l.getD k 0) : natsB (l.drop k) = natsB (l.drop (k + 1)) := by
  rw [natsB_drop h, decide_eq_true (by omega), decide_eq_true (p := l.getD k 0 ≤ 1099511627776) (by omega)]; rfl
end Go.Proofs.Ytglggigndhbpcaa
/- What the document says of clauses, as plain functions of lists: which are right, what is demanded, which are broken, the most, the names; that the ways in which the program and the document's own answer reckon come to the same. No condition but those that stand in each statement. -/
namespace Go.Proofs.Ytglggigndhbpcaa
open Go

/-- An atom: its variable and its Off. -/
abbrev At := Int × Int
/-- A clause: From, and To. -/
abbrev Cl := List At × At
def at0 : At := (0, 0)
def cl0 : Cl := ([], at0)

def atB (vars : Int) (x : At) : Bool := decide (0 ≤ x.1) && (decide (x.1 < vars) && (decide (0 ≤ x.2) && decide (x.2 ≤ 1000)))
def frB (c : Cl) : Bool := decide (1 ≤ c.1.length) && decide (c.1.length ≤ 6)
def clB (vars : Int) (c : Cl) : Bool := atB vars c.2 && (frB c && c.1.all (atB vars))
def cntB (vars : Int) (l : List Cl) : Bool := decide (1 ≤ vars) && (decide (vars ≤ 16) && decide (l.length ≤ 60))
def hrB (vars : Int) (l : List Cl) : Bool := cntB vars l && l.all (clB vars)
/-- Each atom with its clause: those of From, and then To. -/
def pairsOf (c : Cl) : List (Cl × At) := c.1.map (fun a => (c, a)) ++ [(c, c.2)]
def pairs : List Cl → List (Cl × At)
  | [] => []
  | c :: r => pairsOf c ++ pairs r
theorem pairs_app : ∀ a b : List Cl, pairs (a ++ b) = pairs a ++ pairs b
  | [], _ => rfl
  | c :: r, b => by simp only [List.cons_append, pairs, pairs_app r b, List.append_assoc]
theorem pairs_mem {l : List Cl} {y : Cl} {a : At} : (y, a) ∈ pairs l ↔ y ∈ l ∧ (a ∈ y.1 ∨ a = y.2) := by
  induction l with
  | nil => simp [pairs]
  | cons c r ih =>
    simp only [pairs, pairsOf, List.mem_append, List.mem_map, List.mem_cons, List.not_mem_nil, or_false, ih]
    constructor
    · rintro ((⟨a', h, e⟩ | e) | ⟨h, h'⟩)
      · cases e; exact ⟨.inl rfl, .inl h⟩
      · cases e; exact ⟨.inl rfl, .inr rfl⟩
      · exact ⟨.inr h, h'⟩
    · rintro ⟨h | h, h'⟩
      · cases h
        rcases h' with h' | h'
        · exact .inl (.inl ⟨a, h', rfl⟩)
        · cases h'; exact .inl (.inr rfl)
      · exact .inr ⟨h, h'⟩
theorem all_getD {α : Type} {l : List α} {p : α → Bool} (h : l.all p = true) (d : α) {i : Nat} (hi : i < l.length) : p (l.getD i d) = true := by
  rw [List.getD_eq_getElem?_getD, List.getElem?_eq_getElem hi]
  exact List.all_eq_true.1 h _ (List.getElem_mem hi)
theorem getD_mem {α : Type} {l : List α} (d : α) {i : Nat} (hi : i < l.length) : l.getD i d ∈ l := by
  rw [List.getD_eq_getElem?_getD, List.getElem?_eq_getElem hi]
  exact List.getElem_mem hi
theorem take_getD {α : Type} (l : List α) (d : α) {i : Nat} (hi : i < l.length) : l.take (i + 1) = l.take i ++ [l.getD i d] := by
  rw [List.take_succ_eq_append_getElem hi, List.getD_eq_getElem?_getD, List.getElem?_eq_getElem hi]; rfl
theorem drop_getD {α : Type} (l : List α) (d : α) {i : Nat} (hi : i < l.length) : l.drop i = l.getD i d :: l.drop (i + 1) := by
  rw [List.drop_eq_getElem_cons hi, List.getD_eq_getElem?_getD, List.getElem?_eq_getElem hi]; rfl
/-- What the program asks of a list comes to what the document asks. -/
theorem hrB_pairs (vars : Int) (l : List Cl) : (l.all frB && (pairs l).all (fun x => atB vars x.2)) = l.all (clB vars) := by
  induction l with
  | nil => rfl
  | cons c r ih =>
    simp only [List.all_cons, pairs, List.all_append, pairsOf, List.all_map, List.all_nil, Bool.and_true, clB]
    rw [← ih]
    have e : (c.1.all ((fun x : Cl × At => atB vars x.2) ∘ fun a => (c, a))) = c.1.all (atB vars) := rfl
    rw [e]
    cases frB c <;> cases r.all frB <;> cases atB vars c.2 <;> cases c.1.all (atB vars) <;> simp

theorem atB_of {vars : Int} {x : At} (h : atB vars x = true) : 0 ≤ x.1 ∧ x.1 < vars ∧ 0 ≤ x.2 ∧ x.2 ≤ 1000 := by
  simp only [atB, Bool.and_eq_true, decide_eq_true_eq] at h
  exact h
theorem frB_of {c : Cl} (h : frB c = true) : 1 ≤ c.1.length ∧ c.1.length ≤ 6 := by
  simp only [frB, Bool.and_eq_true, decide_eq_true_eq] at h
  exact h
theorem clB_of {vars : Int} {c : Cl} (h : clB vars c = true) : atB vars c.2 = true ∧ frB c = true ∧ c.1.all (atB vars) = true := by
  simp only [clB, Bool.and_eq_true] at h
  exact h
theorem hrB_of {vars : Int} {l : List Cl} (h : hrB vars l = true) : 1 ≤ vars ∧ vars ≤ 16 ∧ l.length ≤ 60 ∧ l.all (clB vars) = true := by
  simp only [hrB, cntB, Bool.and_eq_true, decide_eq_true_eq] at h
  exact ⟨h.1.1, h.1.2.1, h.1.2.2, h.2⟩

/-- The value of an atom in a model. -/
def valA (m : List Int) (x : At) : Int := m.getD x.1.toNat 0 - x.2
def lowA (m : List Int) (s : Int) (l : List At) : Int := l.foldl (fun n a => min n (valA m a)) s
def askC (c : Cl) (m : List Int) : Int := lowA m (valA m (c.1.getD 0 at0)) c.1 + c.2.2
theorem natsB_getD {m : List Int} (h : natsB m = true) (i : Nat) : 0 ≤ m.getD i 0 ∧ m.getD i 0 ≤ 1099511627776 := by
  by_cases hi : i < m.length
  · have := all_getD h 0 hi
    simp only [Bool.and_eq_true, decide_eq_true_eq] at this
    exact this
  · rw [List.getD_eq_getElem?_getD, List.getElem?_eq_none (by omega)]; simp
theorem valA_bd {m : List Int} {vars : Int} {x : At} (h : natsB m = true) (hx : atB vars x = true) : -1000 ≤ valA m x ∧ valA m x ≤ 1099511627776 := by
  have h1 := natsB_getD h x.1.toNat
  have h2 := atB_of hx
  unfold valA
  omega
theorem lowA_snoc (m : List Int) (s : Int) (l : List At) (x : At) : lowA m s (l ++ [x]) = min (lowA m s l) (valA m x) := by simp [lowA]
theorem lowA_le (m : List Int) : ∀ (l : List At) (s : Int), lowA m s l ≤ s
  | [], s => Int.le_refl _
  | x :: r, s => by
    have := lowA_le m r (min s (valA m x))
    simp only [lowA, List.foldl_cons] at this ⊢
    omega
theorem lowA_ge (m : List Int) (vars : Int) (h : natsB m = true) : ∀ (l : List At) (s : Int), l.all (atB vars) = true → -1000 ≤ s → -1000 ≤ lowA m s l
  | [], s, _, hs => hs
  | x :: r, s, ha, hs => by
    simp only [List.all_cons, Bool.and_eq_true] at ha
    have h1 := valA_bd h ha.1
    have := lowA_ge m vars h r (min s (valA m x)) ha.2 (by omega)
    simpa [lowA] using this
theorem lowA_same (m : List Int) : ∀ (l : List At) (s t : Int), (∃ x ∈ l, valA m x ≤ s ∧ valA m x ≤ t) → lowA m s l = lowA m t l
  | [], s, t, h => by obtain ⟨x, h, _⟩ := h; cases h
  | y :: r, s, t, h => by
    show lowA m (min s (valA m y)) r = lowA m (min t (valA m y)) r
    by_cases e : valA m y ≤ s ∧ valA m y ≤ t
    · rw [show min s (valA m y) = valA m y by omega, show min t (valA m y) = valA m y by omega]
    · obtain ⟨x, hx, h1, h2⟩ := h
      simp only [List.mem_cons] at hx
      rcases hx with rfl | hx
      · exact absurd ⟨h1, h2⟩ e
      · by_cases e2 : valA m x ≤ valA m y
        · exact lowA_same m r _ _ ⟨x, hx, by omega, by omega⟩
        · rw [show min s (valA m y) = valA m y by omega, show min t (valA m y) = valA m y by omega]
theorem askC_top {c : Cl} {m : List Int} {vars : Int} (h : natsB m = true) (hc : clB vars c = true) : lowA m 9223372036854775807 c.1 + c.2.2 = askC c m := by
  obtain ⟨_, hf, ha⟩ := clB_of hc
  have hl := frB_of hf
  have h0 := all_getD ha at0 (i := 0) (by omega)
  have hb := valA_bd h h0
  unfold askC
  rw [lowA_same m c.1 9223372036854775807 (valA m (c.1.getD 0 at0)) ⟨c.1.getD 0 at0, getD_mem at0 (by omega), by omega, Int.le_refl _⟩]
/-- Does a clause not hold? -/
def brkB (m : List Int) (c : Cl) : Bool := decide (m.getD c.2.1.toNat 0 < askC c m)
/-- The places of the first k clauses that don't hold. -/
def brkTo (m : List Int) (l : List Cl) (k : Nat) : List Int := ((List.range k).filter fun i => brkB m (l.getD i cl0)).map Int.ofNat
theorem brkTo_succ (m : List Int) (l : List Cl) (k : Nat) : brkTo m l (k + 1) = brkTo m l k ++ if brkB m (l.getD k cl0) = true then [(k : Int)] else [] := by
  unfold brkTo
  rw [List.range_succ, List.filter_append, List.map_append]
  congr 1
  by_cases h : brkB m (l.getD k cl0) = true
  · rw [if_pos h]; show List.map Int.ofNat (match brkB m (l.getD k cl0) with | true => [k] | false => []) = _; rw [h]; rfl
  · rw [if_neg h]; show List.map Int.ofNat (match brkB m (l.getD k cl0) with | true => [k] | false => []) = _; rw [Bool.eq_false_iff.2 h]; rfl
theorem brkTo_len (m : List Int) (l : List Cl) (k : Nat) : (brkTo m l k).length ≤ k := by
  unfold brkTo
  have := List.length_filter_le (fun i => brkB m (l.getD i cl0)) (List.range k)
  simp at this ⊢
  exact this
def brkL (m : List Int) (l : List Cl) : List Int := brkTo m l l.length
def brkOk (m : List Int) (l : List Cl) : Bool := hrB m.length l && natsB m

/-- The most, by pairs. -/
def mostP (s : Int) (l : List (Cl × At)) : Int := l.foldl (fun n x => max n (x.1.2.2 - x.2.2)) s
def mostF (s : Int) (c : Cl) (l : List At) : Int := l.foldl (fun n a => max n (c.2.2 - a.2)) s
def mostD (s : Int) (l : List Cl) : Int := l.foldl (fun n c => mostF n c c.1) s
theorem mostP_snoc (s : Int) (l : List (Cl × At)) (x : Cl × At) : mostP s (l ++ [x]) = max (mostP s l) (x.1.2.2 - x.2.2) := by simp [mostP]
theorem mostF_snoc (s : Int) (c : Cl) (l : List At) (x : At) : mostF s c (l ++ [x]) = max (mostF s c l) (c.2.2 - x.2) := by simp [mostF]
theorem mostD_snoc (s : Int) (l : List Cl) (c : Cl) : mostD s (l ++ [c]) = mostF (mostD s l) c c.1 := by simp [mostD]
theorem mostF_ge (c : Cl) : ∀ (l : List At) (s : Int), s ≤ mostF s c l
  | [], s => Int.le_refl _
  | x :: r, s => by
    have := mostF_ge c r (max s (c.2.2 - x.2))
    simp only [mostF, List.foldl_cons] at this ⊢
    omega
theorem mostP_pairs : ∀ (l : List Cl) (s : Int), 0 ≤ s → mostP s (pairs l) = mostD s l
  | [], s, _ => rfl
  | c :: r, s, hs => by
    have e : mostP s (pairsOf c) = mostF s c c.1 := by
      unfold pairsOf
      have h1 : ∀ (a : List At) (t : Int), mostP t (a.map fun a => (c, a)) = mostF t c a := fun a => by
        induction a with
        | nil => intro t; rfl
        | cons y a ih => intro t; exact ih _
      rw [mostP_snoc, h1]
      have := mostF_ge c c.1 s
      show max (mostF s c c.1) (c.2.2 - c.2.2) = _
      omega
    show mostP s (pairsOf c ++ pairs r) = mostD (mostF s c c.1) r
    have h2 : mostP s (pairsOf c ++ pairs r) = mostP (mostP s (pairsOf c)) (pairs r) := by simp [mostP]
    rw [h2, e]
    exact mostP_pairs r _ (by have := mostF_ge c c.1 s; omega)
theorem mostP_bd {vars : Int} : ∀ (l : List (Cl × At)) (s : Int), (∀ x ∈ l, atB vars x.1.2 = true ∧ atB vars x.2 = true) → 0 ≤ s → s ≤ 1000 → 0 ≤ mostP s l ∧ mostP s l ≤ 1000
  | [], s, _, h0, h1 => ⟨h0, h1⟩
  | x :: r, s, h, h0, h1 => by
    have hx := h x (by simp)
    have a1 := atB_of hx.1
    have a2 := atB_of hx.2
    exact mostP_bd r (max s (x.1.2.2 - x.2.2)) (fun y hy => h y (by simp [hy])) (by omega) (by omega)
theorem mostF_bd {vars : Int} {c : Cl} (hc : atB vars c.2 = true) : ∀ (l : List At) (s : Int), l.all (atB vars) = true → 0 ≤ s → s ≤ 1000 → 0 ≤ mostF s c l ∧ mostF s c l ≤ 1000
  | [], s, _, h0, h1 => ⟨h0, h1⟩
  | x :: r, s, h, h0, h1 => by
    simp only [List.all_cons, Bool.and_eq_true] at h
    have a1 := atB_of hc
    have a2 := atB_of h.1
    exact mostF_bd hc r (max s (c.2.2 - x.2)) h.2 (by omega) (by omega)
theorem mostD_bd {vars : Int} : ∀ (l : List Cl) (s : Int), l.all (clB vars) = true → 0 ≤ s → s ≤ 1000 → 0 ≤ mostD s l ∧ mostD s l ≤ 1000
  | [], s, _, h0, h1 => ⟨h0, h1⟩
  | c :: r, s, h, h0, h1 => by
    simp only [List.all_cons, Bool.and_eq_true] at h
    obtain ⟨a1, _, a3⟩ := clB_of h.1
    have := mostF_bd a1 c.1 s a3 h0 h1
    exact mostD_bd r _ h.2 this.1 this.2

/-- Is a variable named? -/
def nmA (v : Int) (l : List At) : Bool := l.any fun a => a.1 == v
def nmC (v : Int) (c : Cl) : Bool := (c.2.1 == v) || nmA v c.1
def nmB (v : Int) (l : List Cl) : Bool := l.any (nmC v)
def nmP (v : Int) (l : List (Cl × At)) : Bool := l.any fun x => x.2.1 == v
theorem nmP_pairs (v : Int) : ∀ l : List Cl, nmP v (pairs l) = nmB v l
  | [] => rfl
  | c :: r => by
    have h := nmP_pairs v r
    unfold nmP at h
    simp only [nmP, pairs, pairsOf, List.any_append, List.any_map, List.any_cons, List.any_nil, Bool.or_false, nmB, nmC, nmA, h]
    have e : (c.1.any ((fun x : Cl × At => x.2.1 == v) ∘ fun a => (c, a))) = c.1.any fun a => a.1 == v := rfl
    rw [e]
    cases c.1.any (fun a => a.1 == v) <;> cases (c.2.1 == v) <;> simp
theorem nmA_snoc (v : Int) (l : List At) (x : At) : nmA v (l ++ [x]) = (nmA v l || (x.1 == v)) := by simp [nmA]
theorem nmB_snoc (v : Int) (l : List Cl) (c : Cl) : nmB v (l ++ [c]) = (nmB v l || nmC v c) := by simp [nmB]
theorem nmP_snoc (v : Int) (l : List (Cl × At)) (x : Cl × At) : nmP v (l ++ [x]) = (nmP v l || (x.2.1 == v)) := by simp [nmP]
theorem nmB_lt {vars : Int} {l : List Cl} (h : l.all (clB vars) = true) {v : Int} (hv : nmB v l = true) : 0 ≤ v ∧ v < vars := by
  obtain ⟨c, hc, hn⟩ := List.any_eq_true.1 hv
  obtain ⟨a1, _, a3⟩ := clB_of (List.all_eq_true.1 h c hc)
  simp only [nmC, nmA, Bool.or_eq_true, beq_iff_eq, List.any_eq_true] at hn
  rcases hn with rfl | ⟨x, hx, rfl⟩
  · have := atB_of a1; omega
  · have := atB_of (List.all_eq_true.1 a3 x hx); omega
/-- The variables below k that are named. -/
def nmTo (l : List Cl) (k : Nat) : List Int := ((List.range k).filter fun v => nmB (Int.ofNat v) l).map Int.ofNat
theorem nmTo_succ (l : List Cl) (k : Nat) : nmTo l (k + 1) = nmTo l k ++ if nmB (k : Int) l = true then [(k : Int)] else [] := by
  unfold nmTo
  rw [List.range_succ, List.filter_append, List.map_append]
  congr 1
  by_cases h : nmB (k : Int) l = true
  · simp [List.filter, h]
  · simp [List.filter, h]
theorem nmTo_len (l : List Cl) (k : Nat) : (nmTo l k).length ≤ k := by
  unfold nmTo
  have := List.length_filter_le (fun v => nmB (Int.ofNat v) l) (List.range k)
  simp at this ⊢
  exact this
theorem nmTo_more {l : List Cl} {k : Nat} (h : ∀ v : Nat, k ≤ v → nmB (v : Int) l = false) : ∀ d : Nat, nmTo l (k + d) = nmTo l k
  | 0 => rfl
  | d + 1 => by
    rw [← Nat.add_assoc, nmTo_succ, nmTo_more h d, if_neg (by rw [h (k + d) (by omega)]; decide), List.append_nil]
theorem nmTo_end {l : List Cl} {k n : Nat} (h : ∀ v : Nat, k ≤ v → nmB (v : Int) l = false) (hn : ∀ v : Nat, n ≤ v → nmB (v : Int) l = false) : nmTo l k = nmTo l n := by
  rcases Nat.le_total k n with hk | hk
  · have := nmTo_more h (n - k)
    rw [show k + (n - k) = n by omega] at this
    exact this.symm
  · have := nmTo_more hn (k - n)
    rw [show n + (k - n) = k by omega] at this
    exact this
end Go.Proofs.Ytglggigndhbpcaa
/- A cell of a block that is known whole. -/
namespace Go.Proofs.Ytglggigndhbpcaa
open Go.RowKit
theorem cell_at {w : World} {b : Nat} {cs : Array Value} {t : TypeId} (h : w.heap[b]? = some (.cells cs t (0, 0))) (i : Nat) : w.cell? ⟨b, i, none⟩ = cs[i]? := by simp [World.cell?, h]
theorem Only.refl (w : World) (C : Nat) : w.grownBy w (some C) := ⟨rfl, rfl, rfl, Nat.le_refl _, fun _ _ _ => rfl⟩
theorem Only.draws {w w' : World} {C : Nat} (h : w.grownBy w' (some C)) (n : Nat) : w.grownBy (w'.drewN n) (some C) := ⟨h.os, h.tape, h.output, h.size, h.block⟩

/-- The levels of a forest at a place, where the cells there and all the blocks of their Kids are as they were. -/
theorem FoIn.cells {w w' : World} {P : Nat → Prop} (hP : ∀ b, P b → w'.heap[b]? = w.heap[b]?) : ∀ (f : Fo) (b o : Nat), (∀ j, j < f.len * 3 → w'.cell? ⟨b, o + j, none⟩ = w.cell? ⟨b, o + j, none⟩) → FoIn w P f b o → FoIn w' P f b o
  | .nil, _, _, _, _ => trivial
  | .cons k n kids rest, b, o, hc, hf => by
    obtain ⟨h1, h2, ⟨a, cap, h3, hs⟩, h8⟩ := hf.first
    have hl : (Fo.cons k n kids rest).len * 3 = rest.len * 3 + 3 := by simp only [Fo.len]; omega
    refine FoIn.push ((hc 0 (by omega)).trans h1) ((hc 1 (by omega)).trans h2) ((hc 2 (by omega)).trans h3) (hs.keep hP) (FoIn.cells hP rest b (o + 3) (fun j hj => ?_) h8)
    have := hc (j + 3) (by omega)
    rwa [show o + 3 + j = o + (j + 3) by omega]
theorem Only.past {w w1 w2 : World} {M R : Nat} (h : w.grownBy w1 (some M)) (k : w1.grownBy w2 (some R)) (hR : w.heap.size ≤ R) : w.grownBy w2 (some M) :=
  ⟨k.os.trans h.os, k.tape.trans h.tape, k.output.trans h.output, Nat.le_trans h.size k.size, fun i hi hne => (Only.block k (Nat.lt_of_lt_of_le hi h.size) (by omega)).trans (h.block i hi hne)⟩
theorem set3_only {w : World} (R : Nat) (x y z : Value) : w.grownBy (((w.setCell ⟨R, 0, none⟩ x).setCell ⟨R, 1, none⟩ y).setCell ⟨R, 2, none⟩ z) (some R) := Only.after (Only.after (Only.set _ _ _ _) (Only.set _ _ _ _)) (Only.set _ _ _ _)

theorem set3_any {w : World} (R i j k : Nat) (x y z : Value) : w.grownBy (((w.setCell ⟨R, i, none⟩ x).setCell ⟨R, j, none⟩ y).setCell ⟨R, k, none⟩ z) (some R) := Only.after (Only.after (Only.set _ _ _ _) (Only.set _ _ _ _)) (Only.set _ _ _ _)
theorem SlIn.carry {w1 w2 : World} {lo R : Nat} {F : Fo} {x : Option Addr} {c : Nat} {lo' : Nat} (h : SlIn w1 (fun b => lo ≤ b ∧ b < w1.heap.size) F x c) (hg : w1.grownBy w2 (Option.some R)) (hR : R < lo) (hlo : lo' ≤ lo) : SlIn w2 (fun b => lo' ≤ b ∧ b < w2.heap.size) F x c :=
  (h.keep (fun _ hb => Only.block hg hb.2 (by omega))).weak (fun _ hb => ⟨by omega, Nat.lt_of_lt_of_le hb.2 hg.size⟩)
end Go.Proofs.Ytglggigndhbpcaa
/- Atoms and clauses in memory: how they lie there, and that they lie there still when only other memory has changed. No condition but those that stand in each statement. -/
namespace Go.Proofs.Ytglggigndhbpcaa
open Go.RowKit

/-- The slice (a, cap) holds the atoms. -/
def AtsIn (w : World) (P : Nat → Prop) (l : List At) (a : Option Addr) (cap : Nat) : Prop :=
  l.length ≤ cap ∧ cap ≤ maxLen ∧ (a = none → cap = 0) ∧ (0 < l.length → ∃ b o, a = some ⟨b, o, none⟩ ∧ P b ∧
    ∀ i, i < l.length → w.cell? ⟨b, o + i * 2, none⟩ = some (.int .i64 (l.getD i at0).1) ∧ w.cell? ⟨b, o + i * 2 + 1, none⟩ = some (.int .i64 (l.getD i at0).2))
/-- The slice (a, cap) holds the clauses. -/
def ClsIn (w : World) (P : Nat → Prop) (l : List Cl) (a : Option Addr) (cap : Nat) : Prop :=
  l.length ≤ cap ∧ cap ≤ maxLen ∧ (a = none → cap = 0) ∧ (0 < l.length → ∃ b o, a = some ⟨b, o, none⟩ ∧ P b ∧
    ∀ i, i < l.length → (∃ a' c', w.cell? ⟨b, o + i * 3, none⟩ = some (.slice a' (l.getD i cl0).1.length c') ∧ AtsIn w P (l.getD i cl0).1 a' c') ∧
      w.cell? ⟨b, o + i * 3 + 1, none⟩ = some (.int .i64 (l.getD i cl0).2.1) ∧ w.cell? ⟨b, o + i * 3 + 2, none⟩ = some (.int .i64 (l.getD i cl0).2.2))
theorem AtsIn.some {w : World} {P : Nat → Prop} {l : List At} {a : Option Addr} {cap : Nat} (h : AtsIn w P l a cap) (hl : 0 < l.length) :
    ∃ b o, a = .some ⟨b, o, none⟩ ∧ P b ∧ ∀ i, i < l.length → w.cell? ⟨b, o + i * 2, none⟩ = .some (.int .i64 (l.getD i at0).1) ∧ w.cell? ⟨b, o + i * 2 + 1, none⟩ = .some (.int .i64 (l.getD i at0).2) := h.2.2.2 hl
theorem AtsIn.len {w : World} {P : Nat → Prop} {l : List At} {a : Option Addr} {cap : Nat} (h : AtsIn w P l a cap) : l.length ≤ 9223372036854775807 := by
  have h1 := h.1
  have h2 := h.2.1
  unfold maxLen at h2
  omega
theorem AtsIn.keep {w w' : World} {P : Nat → Prop} (hP : ∀ b, P b → w'.heap[b]? = w.heap[b]?) {l : List At} {a : Option Addr} {cap : Nat} (h : AtsIn w P l a cap) : AtsIn w' P l a cap := by
  obtain ⟨h1, h2, h3, h4⟩ := h
  refine ⟨h1, h2, h3, fun hx => ?_⟩
  obtain ⟨b, o, e, hb, hf⟩ := h4 hx
  exact ⟨b, o, e, hb, fun i hi => ⟨(World.cell?_of_block (w := w) (hP b hb)).trans (hf i hi).1, (World.cell?_of_block (w := w) (hP b hb)).trans (hf i hi).2⟩⟩
theorem AtsIn.weak {w : World} {P Q : Nat → Prop} (hB : ∀ b, P b → Q b) {l : List At} {a : Option Addr} {cap : Nat} (h : AtsIn w P l a cap) : AtsIn w Q l a cap := by
  obtain ⟨h1, h2, h3, h4⟩ := h
  refine ⟨h1, h2, h3, fun hx => ?_⟩
  obtain ⟨b, o, e, hb, hf⟩ := h4 hx
  exact ⟨b, o, e, hB _ hb, hf⟩
theorem AtsIn.below {w w' : World} {B : Nat} {l : List At} {a : Option Addr} {cap : Nat} (hb : Below B w w') (h : AtsIn w (· < B) l a cap) : AtsIn w' (· < B) l a cap := h.keep (fun b h => hb.block b h)
theorem AtsIn.none (w : World) (P : Nat → Prop) : AtsIn w P [] .none 0 := ⟨Nat.le_refl _, Nat.zero_le _, fun _ => rfl, fun hx => by simp at hx⟩
theorem ClsIn.some {w : World} {P : Nat → Prop} {l : List Cl} {a : Option Addr} {cap : Nat} (h : ClsIn w P l a cap) (hl : 0 < l.length) :
    ∃ b o, a = .some ⟨b, o, none⟩ ∧ P b ∧ ∀ i, i < l.length → (∃ a' c', w.cell? ⟨b, o + i * 3, none⟩ = .some (.slice a' (l.getD i cl0).1.length c') ∧ AtsIn w P (l.getD i cl0).1 a' c') ∧
      w.cell? ⟨b, o + i * 3 + 1, none⟩ = .some (.int .i64 (l.getD i cl0).2.1) ∧ w.cell? ⟨b, o + i * 3 + 2, none⟩ = .some (.int .i64 (l.getD i cl0).2.2) := h.2.2.2 hl
theorem ClsIn.len {w : World} {P : Nat → Prop} {l : List Cl} {a : Option Addr} {cap : Nat} (h : ClsIn w P l a cap) : l.length ≤ 9223372036854775807 := by
  have h1 := h.1
  have h2 := h.2.1
  unfold maxLen at h2
  omega
theorem ClsIn.keep {w w' : World} {P : Nat → Prop} (hP : ∀ b, P b → w'.heap[b]? = w.heap[b]?) {l : List Cl} {a : Option Addr} {cap : Nat} (h : ClsIn w P l a cap) : ClsIn w' P l a cap := by
  obtain ⟨h1, h2, h3, h4⟩ := h
  refine ⟨h1, h2, h3, fun hx => ?_⟩
  obtain ⟨b, o, e, hb, hf⟩ := h4 hx
  refine ⟨b, o, e, hb, fun i hi => ?_⟩
  obtain ⟨⟨a', c', q1, q2⟩, q3, q4⟩ := hf i hi
  exact ⟨⟨a', c', (World.cell?_of_block (w := w) (hP b hb)).trans q1, q2.keep hP⟩, (World.cell?_of_block (w := w) (hP b hb)).trans q3, (World.cell?_of_block (w := w) (hP b hb)).trans q4⟩
theorem ClsIn.weak {w : World} {P Q : Nat → Prop} (hB : ∀ b, P b → Q b) {l : List Cl} {a : Option Addr} {cap : Nat} (h : ClsIn w P l a cap) : ClsIn w Q l a cap := by
  obtain ⟨h1, h2, h3, h4⟩ := h
  refine ⟨h1, h2, h3, fun hx => ?_⟩
  obtain ⟨b, o, e, hb, hf⟩ := h4 hx
  refine ⟨b, o, e, hB _ hb, fun i hi => ?_⟩
  obtain ⟨⟨a', c', q1, q2⟩, q3, q4⟩ := hf i hi
  exact ⟨⟨a', c', q1, q2.weak hB⟩, q3, q4⟩
theorem ClsIn.below {w w' : World} {B : Nat} {l : List Cl} {a : Option Addr} {cap : Nat} (hb : Below B w w') (h : ClsIn w (· < B) l a cap) : ClsIn w' (· < B) l a cap := h.keep (fun b h => hb.block b h)
theorem ClsIn.mono {w : World} {B B' : Nat} (hB : B ≤ B') {l : List Cl} {a : Option Addr} {cap : Nat} (h : ClsIn w (· < B) l a cap) : ClsIn w (· < B') l a cap := h.weak (fun _ h => Nat.lt_of_lt_of_le h hB)
theorem ClsIn.none (w : World) (P : Nat → Prop) : ClsIn w P [] .none 0 := ⟨Nat.le_refl _, Nat.zero_le _, fun _ => rfl, fun hx => by simp at hx⟩
theorem IntsIn.mono {w : World} {B B' : Nat} (hB : B ≤ B') {l : List Int} {a : Option Addr} {cap : Nat} (h : IntsIn w (· < B) l a cap) : IntsIn w (· < B') l a cap := h.weak (fun _ h => Nat.lt_of_lt_of_le h hB)
/-- The clause's value. -/
def clV (c : Cl) (a : Option Addr) (cap : Nat) : Value := .agg #[.slice a c.1.length cap, .int .i64 c.2.1, .int .i64 c.2.2]
def atV (x : At) : Value := .agg #[.int .i64 x.1, .int .i64 x.2]
end Go.Proofs.Ytglggigndhbpcaa
/- Bytes in memory, that a slice holds. No condition but those that stand in each statement. -/
namespace Go.Proofs.Ytglggigndhbpcaa
open Go.RowKit

/-- The slice (a, cap) holds so many bytes. -/
def ByIn (w : World) (P : Nat → Prop) (len : Nat) (a : Option Addr) (cap : Nat) : Prop :=
  len ≤ cap ∧ cap ≤ maxLen ∧ (a = none → cap = 0) ∧ (0 < len → ∃ b o, a = some ⟨b, o, none⟩ ∧ P b ∧ ∀ i, i < len → ∃ z : Int, 0 ≤ z ∧ z < 256 ∧ w.cell? ⟨b, o + i, none⟩ = some (.int .u8 z))
theorem ByIn.keep {w w' : World} {P : Nat → Prop} (hP : ∀ b, P b → w'.heap[b]? = w.heap[b]?) {len : Nat} {a : Option Addr} {cap : Nat} (h : ByIn w P len a cap) : ByIn w' P len a cap := by
  obtain ⟨h1, h2, h3, h4⟩ := h
  refine ⟨h1, h2, h3, fun hx => ?_⟩
  obtain ⟨b, o, e, hb, hf⟩ := h4 hx
  refine ⟨b, o, e, hb, fun i hi => ?_⟩
  obtain ⟨z, z0, z1, hz⟩ := hf i hi
  exact ⟨z, z0, z1, (World.cell?_of_block (w := w) (hP b hb)).trans hz⟩
theorem ByIn.below {w w' : World} {B : Nat} {len : Nat} {a : Option Addr} {cap : Nat} (hb : Below B w w') (h : ByIn w (· < B) len a cap) : ByIn w' (· < B) len a cap := h.keep (fun b h => hb.block b h)
theorem ByIn.at {w : World} {P : Nat → Prop} {len : Nat} {a : Option Addr} {cap i : Nat} (h : ByIn w P len a cap) (hi : i < len) : ∃ (b o : Nat) (z : Int), a = some ⟨b, o, none⟩ ∧ P b ∧ 0 ≤ z ∧ z < 256 ∧ w.cell? ⟨b, o + i, none⟩ = some (.int .u8 z) := by
  obtain ⟨b, o, e, hb, hf⟩ := h.2.2.2 (by omega)
  obtain ⟨z, z0, z1, hz⟩ := hf i hi
  exact ⟨b, o, z, e, hb, z0, z1, hz⟩
theorem ByIn.lenLe {w : World} {P : Nat → Prop} {len : Nat} {a : Option Addr} {cap : Nat} (h : ByIn w P len a cap) : len ≤ 9223372036854775807 := by
  have h1 := h.1
  have h2 := h.2.1
  unfold maxLen at h2
  omega
end Go.Proofs.Ytglggigndhbpcaa
/- What holds of the lesser ones of two models' values, and of values that are all more by the same, as plain mathematics; the clauses that hold of both. No condition but those that stand in each statement. -/
namespace Go.Proofs.Ytglggigndhbpcaa
open Go

theorem lowA_mono (a m : List Int) : ∀ (l : List At) (s t : Int), (∀ x ∈ l, valA m x ≤ valA a x) → s ≤ t → lowA m s l ≤ lowA a t l
  | [], s, t, _, h => h
  | x :: r, s, t, hx, h => by
    have h1 := hx x (by simp)
    exact lowA_mono a m r (min s (valA m x)) (min t (valA a x)) (fun y hy => hx y (by simp [hy])) (by omega)
theorem lowA_shift (a m : List Int) (k : Int) : ∀ (l : List At) (s t : Int), (∀ x ∈ l, valA m x = valA a x + k) → t = s + k → lowA m t l = lowA a s l + k
  | [], s, t, _, h => h
  | x :: r, s, t, hx, h => by
    have h1 := hx x (by simp)
    exact lowA_shift a m k r (min s (valA a x)) (min t (valA m x)) (fun y hy => hx y (by simp [hy])) (by omega)
theorem ask_mono {a m : List Int} {V : Int} {c : Cl} (hc : clB V c = true) (h : ∀ x, atB V x = true → valA m x ≤ valA a x) : askC c m ≤ askC c a := by
  obtain ⟨_, hf, ha⟩ := clB_of hc
  have hl := frB_of hf
  have hall : ∀ x ∈ c.1, valA m x ≤ valA a x := fun x hx => h x (List.all_eq_true.1 ha x hx)
  have := lowA_mono a m c.1 (valA m (c.1.getD 0 at0)) (valA a (c.1.getD 0 at0)) hall (hall _ (getD_mem at0 (by omega)))
  unfold askC
  omega
theorem ask_shift {a m : List Int} {V k : Int} {c : Cl} (hc : clB V c = true) (h : ∀ x, atB V x = true → valA m x = valA a x + k) : askC c m = askC c a + k := by
  obtain ⟨_, hf, ha⟩ := clB_of hc
  have hl := frB_of hf
  have hall : ∀ x ∈ c.1, valA m x = valA a x + k := fun x hx => h x (List.all_eq_true.1 ha x hx)
  have := lowA_shift a m k c.1 (valA a (c.1.getD 0 at0)) (valA m (c.1.getD 0 at0)) hall (hall _ (getD_mem at0 (by omega)))
  unfold askC
  omega
/-- The values of a model are told by a function. -/
def PtM (m : List Int) (V : Nat) (f : Nat → Int) : Prop := m.length = V ∧ ∀ j, j < V → m.getD j 0 = f j
theorem PtM.val {m : List Int} {V : Nat} {f : Nat → Int} (h : PtM m V f) {x : At} (hx : atB V x = true) : valA m x = f x.1.toNat - x.2 := by
  obtain ⟨h1, h2, _⟩ := atB_of hx
  unfold valA
  rw [h.2 _ (by omega)]
theorem PtM.set {m : List Int} {V : Nat} {f : Nat → Int} (h : PtM m V f) (i : Nat) (z : Int) : PtM (m.set i z) V (fun j => if j = i then z else f j) := by
  refine ⟨by rw [List.length_set]; exact h.1, fun j hj => ?_⟩
  have := h.2 j hj
  rw [List.getD_eq_getElem?_getD] at this ⊢
  rw [List.getElem?_set]
  by_cases e : i = j
  · subst e
    rw [if_pos rfl, if_pos (by rw [h.1]; exact hj)]
    show z = if i = i then z else f i
    rw [if_pos rfl]
  · rw [if_neg e]
    show _ = if j = i then z else f j
    rw [if_neg (Ne.symm e)]
    exact this
theorem PtM.congr {m : List Int} {V : Nat} {f g : Nat → Int} (h : PtM m V f) (hg : ∀ j, j < V → f j = g j) : PtM m V g := ⟨h.1, fun j hj => (h.2 j hj).trans (hg j hj)⟩
theorem PtM.nats {m : List Int} {V : Nat} {f : Nat → Int} (h : PtM m V f) (hf : ∀ j, j < V → 0 ≤ f j ∧ f j ≤ 1099511627776) : natsB m = true := by
  refine List.all_eq_true.2 fun x hx => ?_
  obtain ⟨i, hi, rfl⟩ := List.getElem_of_mem hx
  have h1 := h.2 i (by rw [← h.1]; exact hi)
  rw [List.getD_eq_getElem?_getD, List.getElem?_eq_getElem hi] at h1
  simp only [Option.getD_some] at h1
  have := hf i (by rw [← h.1]; exact hi)
  rw [h1]
  simpa using this
/-- What holds of two models holds of the lesser ones of their values. -/
theorem brk_least {a b m : List Int} {V : Nat} {c : Cl} (hc : clB V c = true) (ha : a.length = V) (hb : b.length = V) (hm : PtM m V (fun j => min (a.getD j 0) (b.getD j 0))) (h1 : brkB a c = false) (h2 : brkB b c = false) : brkB m c = false := by
  have pa : PtM a V (fun j => a.getD j 0) := ⟨ha, fun _ _ => rfl⟩
  have pb : PtM b V (fun j => b.getD j 0) := ⟨hb, fun _ _ => rfl⟩
  have q1 := ask_mono (a := a) (m := m) hc (fun x hx => by rw [hm.val hx, pa.val hx]; omega)
  have q2 := ask_mono (a := b) (m := m) hc (fun x hx => by rw [hm.val hx, pb.val hx]; omega)
  have ht := atB_of (clB_of hc).1
  simp only [brkB, decide_eq_false_iff_not] at h1 h2 ⊢
  have h3 := hm.2 c.2.1.toNat (by omega)
  simp only at h3
  omega
/-- Values that are all more by the same: the same clauses hold. -/
theorem brk_up {a m : List Int} {V : Nat} {k : Int} {c : Cl} (hc : clB V c = true) (ha : a.length = V) (hm : PtM m V (fun j => a.getD j 0 + k)) : brkB m c = brkB a c := by
  have pa : PtM a V (fun j => a.getD j 0) := ⟨ha, fun _ _ => rfl⟩
  have q1 := ask_shift (a := a) (m := m) (k := k) hc (fun x hx => by rw [hm.val hx, pa.val hx]; omega)
  have ht := atB_of (clB_of hc).1
  have h3 := hm.2 c.2.1.toNat (by omega)
  simp only at h3
  unfold brkB
  rw [q1, h3]
  congr 1
  exact propext ⟨fun h => by omega, fun h => by omega⟩
theorem brkL_up {a m : List Int} {V : Nat} {k : Int} {l : List Cl} (hl : l.all (clB V) = true) (ha : a.length = V) (hm : PtM m V (fun j => a.getD j 0 + k)) : brkL m l = brkL a l := by
  unfold brkL brkTo
  congr 1
  refine List.filter_congr fun i hi => ?_
  exact brk_up (all_getD hl cl0 (by simpa using hi)) ha hm
/-- The clauses that hold of both. -/
def bothL (a b : List Int) (l : List Cl) : List Cl := l.filter fun c => !brkB a c && !brkB b c
theorem bothL_snoc (a b : List Int) (l : List Cl) (c : Cl) : bothL a b (l ++ [c]) = bothL a b l ++ if (!brkB a c && !brkB b c) = true then [c] else [] := by
  unfold bothL
  rw [List.filter_append]
  congr 1
  by_cases h : (!brkB a c && !brkB b c) = true
  · rw [if_pos h]; simp [List.filter, h]
  · rw [if_neg h]; simp [List.filter, h]
theorem bothL_len (a b : List Int) (l : List Cl) : (bothL a b l).length ≤ l.length := List.length_filter_le _ _
theorem bothL_all {a b : List Int} {V : Nat} {l : List Cl} (hl : l.all (clB V) = true) : (bothL a b l).all (clB V) = true :=
  List.all_eq_true.2 fun c hc => List.all_eq_true.1 hl c (List.mem_filter.1 hc).1
theorem bothL_none {a b m : List Int} {V : Nat} {l : List Cl} (hl : l.all (clB V) = true) (ha : a.length = V) (hb : b.length = V) (hm : PtM m V (fun j => min (a.getD j 0) (b.getD j 0))) : brkL m (bothL a b l) = [] := by
  unfold brkL brkTo
  rw [List.map_eq_nil_iff, List.filter_eq_nil_iff]
  intro i hi
  have hi' : i < (bothL a b l).length := by simpa using hi
  have h1 := getD_mem cl0 hi'
  generalize (bothL a b l).getD i cl0 = c at h1
  obtain ⟨h2, h3⟩ := List.mem_filter.1 h1
  simp only [Bool.and_eq_true, Bool.not_eq_true'] at h3
  rw [brk_least (List.all_eq_true.1 hl c h2) ha hb hm h3.1 h3.2]
  decide
/-- A number that is not among others. -/
def notIn (l : List Int) (i : Int) : Bool := l.all fun x => x != i
theorem notIn_take {l : List Int} {i : Int} {k : Nat} (hk : k < l.length) : notIn (l.take (k + 1)) i = (notIn (l.take k) i && (l.getD k 0 != i)) := by
  unfold notIn
  rw [take_getD l 0 hk, List.all_append]
  simp
theorem notIn_brk {m : List Int} {l : List Cl} {i : Nat} (hi : i < l.length) : notIn (brkL m l) i = !brkB m (l.getD i cl0) := by
  unfold notIn brkL brkTo
  cases hb : brkB m (l.getD i cl0) with
  | true =>
    refine List.all_eq_false.2 ⟨(i : Int), ?_, by simp⟩
    exact List.mem_map.2 ⟨i, List.mem_filter.2 ⟨by simpa using hi, hb⟩, rfl⟩
  | false =>
    refine List.all_eq_true.2 fun x hx => ?_
    obtain ⟨j, hj, rfl⟩ := List.mem_map.1 hx
    have h2 := (List.mem_filter.1 hj).2
    have : j ≠ i := fun e => by subst e; rw [hb] at h2; cases h2
    simp only [bne_iff_ne, ne_eq]
    intro e
    exact this (Int.ofNat.inj e)
end Go.Proofs.Ytglggigndhbpcaa
/- The rounds of layer 9, as plain functions of lists; that they end, with the least model or with none (J4). No condition but those that stand in each statement. -/
namespace Go.Proofs.Ytglggigndhbpcaa
open Go

/-- No value of the one is more than the other's. -/
def LeM (a b : List Int) : Prop := a.length = b.length ∧ ∀ i, a.getD i 0 ≤ b.getD i 0
theorem LeM.refl (a : List Int) : LeM a a := ⟨rfl, fun _ => Int.le_refl _⟩
theorem LeM.trans {a b c : List Int} (h : LeM a b) (k : LeM b c) : LeM a c := ⟨h.1.trans k.1, fun i => Int.le_trans (h.2 i) (k.2 i)⟩
theorem getD_ext {a b : List Int} (hl : a.length = b.length) (h : ∀ i, a.getD i 0 = b.getD i 0) : a = b := by
  refine List.ext_getElem hl fun i h1 h2 => ?_
  have := h i
  rw [List.getD_eq_getElem?_getD, List.getD_eq_getElem?_getD, List.getElem?_eq_getElem h1, List.getElem?_eq_getElem h2] at this
  exact this
theorem LeM.anti {a b : List Int} (h : LeM a b) (k : LeM b a) : a = b := getD_ext h.1 fun i => Int.le_antisymm (h.2 i) (k.2 i)
theorem getD_set {m : List Int} {i : Nat} (z : Int) (hi : i < m.length) (k : Nat) : (m.set i z).getD k 0 = if k = i then z else m.getD k 0 := by
  rw [List.getD_eq_getElem?_getD, List.getD_eq_getElem?_getD, List.getElem?_set]
  by_cases e : i = k
  · subst e
    rw [if_pos rfl, if_pos hi, if_pos rfl]; rfl
  · rw [if_neg e, if_neg (Ne.symm e)]
theorem LeM.val {a b : List Int} (h : LeM a b) (x : At) : valA a x ≤ valA b x := by
  have := h.2 x.1.toNat
  unfold valA
  omega
theorem LeM.ask {a b : List Int} {V : Int} {c : Cl} (hc : clB V c = true) (h : LeM a b) : askC c a ≤ askC c b := ask_mono hc (fun x _ => h.val x)

/-- A clause is looked at. -/
def stepJ (m : List Int) (c : Cl) : List Int := if m.getD c.2.1.toNat 0 < askC c m then m.set c.2.1.toNat (askC c m) else m
def rndJ (l : List Cl) (m : List Int) : List Int := l.foldl stepJ m
theorem stepJ_yes {m : List Int} {c : Cl} (h : brkB m c = true) : stepJ m c = m.set c.2.1.toNat (askC c m) := by
  unfold stepJ
  rw [if_pos (of_decide_eq_true h)]
theorem stepJ_no {m : List Int} {c : Cl} (h : brkB m c = false) : stepJ m c = m := by
  unfold stepJ
  rw [if_neg (of_decide_eq_false h)]
theorem stepJ_len (m : List Int) (c : Cl) : (stepJ m c).length = m.length := by
  cases h : brkB m c with
  | true => rw [stepJ_yes h, List.length_set]
  | false => rw [stepJ_no h]
theorem cl_to {V : Nat} {c : Cl} (hc : clB V c = true) : c.2.1.toNat < V := by
  have := atB_of (clB_of hc).1
  omega
theorem stepJ_le {m : List Int} {c : Cl} (hc : clB m.length c = true) : LeM m (stepJ m c) := by
  refine ⟨(stepJ_len m c).symm, fun i => ?_⟩
  cases h : brkB m c with
  | true =>
    rw [stepJ_yes h, getD_set _ (cl_to hc)]
    split
    · rename_i e; subst e; have := of_decide_eq_true h; omega
    · exact Int.le_refl _
  | false => rw [stepJ_no h]; exact Int.le_refl _
theorem stepJ_below {m a : List Int} {c : Cl} (hc : clB m.length c = true) (h : LeM m a) (hb : brkB a c = false) : LeM (stepJ m c) a := by
  refine ⟨(stepJ_len m c).trans h.1, fun i => ?_⟩
  cases hm : brkB m c with
  | true =>
    rw [stepJ_yes hm, getD_set _ (cl_to hc)]
    split
    · rename_i e; subst e; have := of_decide_eq_false hb; have := h.ask hc; omega
    · exact h.2 i
  | false => rw [stepJ_no hm]; exact h.2 i
theorem stepJ_ne {m : List Int} {c : Cl} (hc : clB m.length c = true) (h : brkB m c = true) : stepJ m c ≠ m := fun e => by
  have h1 := getD_set (askC c m) (cl_to hc) c.2.1.toNat
  rw [if_pos rfl, ← stepJ_yes h, e] at h1
  have := of_decide_eq_true h
  omega
def RightJ (V : Nat) (l : List Cl) : Prop := ∀ c ∈ l, clB V c = true
theorem RightJ.of {V : Nat} {l : List Cl} (h : l.all (clB V) = true) : RightJ V l := fun c hc => List.all_eq_true.1 h c hc
/-- All clauses hold. -/
def ModJ (l : List Cl) (m : List Int) : Prop := ∀ c ∈ l, brkB m c = false
theorem rndJ_len : ∀ (l : List Cl) (m : List Int), (rndJ l m).length = m.length
  | [], _ => rfl
  | c :: r, m => (rndJ_len r (stepJ m c)).trans (stepJ_len m c)
theorem rndJ_snoc (l : List Cl) (m : List Int) (c : Cl) : rndJ (l ++ [c]) m = stepJ (rndJ l m) c := by simp [rndJ]
theorem rndJ_le : ∀ {l : List Cl} {m : List Int}, RightJ m.length l → LeM m (rndJ l m)
  | [], m, _ => LeM.refl m
  | c :: r, m, h => (stepJ_le (h c (by simp))).trans (rndJ_le (by rw [stepJ_len]; exact fun d hd => h d (by simp [hd])))
theorem rndJ_below : ∀ {l : List Cl} {m a : List Int}, RightJ m.length l → LeM m a → ModJ l a → LeM (rndJ l m) a
  | [], _, _, _, h, _ => h
  | c :: r, m, a, h, hm, ha => rndJ_below (l := r) (by rw [stepJ_len]; exact fun d hd => h d (by simp [hd])) (stepJ_below (h c (by simp)) hm (ha c (by simp))) (fun d hd => ha d (by simp [hd]))
theorem rndJ_mod : ∀ {l : List Cl} {m : List Int}, RightJ m.length l → rndJ l m = m → ModJ l m
  | [], m, _, _ => fun c hc => by cases hc
  | c :: r, m, h, e => by
    have hc := h c (by simp)
    have h2 : RightJ (stepJ m c).length r := by rw [stepJ_len]; exact fun d hd => h d (by simp [hd])
    have h3 : stepJ m c = m := LeM.anti (by have := rndJ_le h2; rwa [show rndJ r (stepJ m c) = m from e] at this) (stepJ_le hc)
    have e2 : rndJ r m = m := by have : rndJ r (stepJ m c) = m := e; rwa [h3] at this
    have h4 := rndJ_mod (l := r) (by rwa [h3] at h2) e2
    intro d hd
    rcases List.mem_cons.1 hd with rfl | hd
    · cases hb : brkB m d with
      | false => rfl
      | true => exact absurd h3 (stepJ_ne hc hb)
    · exact h4 d hd
theorem rndJ_fix : ∀ {l : List Cl} {m : List Int}, ModJ l m → rndJ l m = m
  | [], _, _ => rfl
  | c :: r, m, h => by
    show rndJ r (stepJ m c) = m
    rw [stepJ_no (h c (by simp))]
    exact rndJ_fix (fun d hd => h d (by simp [hd]))
/-- What a round changes, clause by clause. -/
theorem rndJ_chg {l : List Cl} {m : List Int} {c : Cl} (h : RightJ m.length (l ++ [c])) : decide (rndJ (l ++ [c]) m ≠ m) = (decide (rndJ l m ≠ m) || brkB (rndJ l m) c) := by
  have hc : clB (rndJ l m).length c = true := by rw [rndJ_len]; exact h c (by simp)
  have hl : RightJ m.length l := fun d hd => h d (by simp [hd])
  rw [rndJ_snoc]
  cases hb : brkB (rndJ l m) c with
  | true =>
    rw [Bool.or_true, decide_eq_true_eq]
    intro e
    have h1 : LeM (rndJ l m) m := by have := stepJ_le hc; rwa [e] at this
    have h2 := (rndJ_le hl).anti h1
    exact stepJ_ne hc hb (by rw [e]; exact h2)
  | false => rw [stepJ_no hb, Bool.or_false]

/-- So many rounds. -/
def itJ (l : List Cl) (m : List Int) : Nat → List Int
  | 0 => m
  | j + 1 => rndJ l (itJ l m j)
theorem itJ_len (l : List Cl) (m : List Int) : ∀ j, (itJ l m j).length = m.length
  | 0 => rfl
  | j + 1 => (rndJ_len l _).trans (itJ_len l m j)
theorem itJ_up {l : List Cl} {m : List Int} (h : RightJ m.length l) (j : Nat) : LeM (itJ l m j) (itJ l m (j + 1)) := rndJ_le (by rw [itJ_len]; exact h)
theorem itJ_le {l : List Cl} {m : List Int} (h : RightJ m.length l) : ∀ j, LeM m (itJ l m j)
  | 0 => LeM.refl m
  | j + 1 => (itJ_le h j).trans (itJ_up h j)
theorem itJ_below {l : List Cl} {m a : List Int} (h : RightJ m.length l) (hm : LeM m a) (ha : ModJ l a) : ∀ j, LeM (itJ l m j) a
  | 0 => hm
  | j + 1 => rndJ_below (by rw [itJ_len]; exact h) (itJ_below h hm ha j) ha
/-- Is a value greater than the limit? -/
def grB (most : Int) (m : List Int) : Bool := m.any fun x => decide (most < x)
theorem grB_no {most : Int} {m : List Int} : grB most m = false ↔ ∀ i, i < m.length → m.getD i 0 ≤ most := by
  constructor
  · intro h i hi
    have := List.any_eq_false.1 h _ (getD_mem 0 hi)
    simpa using this
  · intro h
    refine List.any_eq_false.2 fun x hx => ?_
    obtain ⟨i, hi, rfl⟩ := List.getElem_of_mem hx
    have := h i hi
    rw [List.getD_eq_getElem?_getD, List.getElem?_eq_getElem hi] at this
    simpa using this
/-- The rounds end with the j-th one. -/
def EndJ (l : List Cl) (m : List Int) (most : Int) (j : Nat) : Prop :=
  1 ≤ j ∧ (grB most (itJ l m j) = true ∨ itJ l m j = itJ l m (j - 1)) ∧ ∀ i, 1 ≤ i → i < j → grB most (itJ l m i) = false ∧ itJ l m i ≠ itJ l m (i - 1)
theorem EndJ.uniq {l : List Cl} {m : List Int} {most : Int} {j k : Nat} (h : EndJ l m most j) (g : EndJ l m most k) : j = k := by
  have one : ∀ {j k : Nat}, EndJ l m most j → EndJ l m most k → ¬ j < k := fun {j k} h g hlt => by
    obtain ⟨h1, h2, _⟩ := h
    obtain ⟨g1, g2⟩ := g.2.2 j h1 hlt
    rcases h2 with h2 | h2
    · rw [h2] at g1; cases g1
    · exact g2 h2
  have := one h g
  have := one g h
  omega
def sumJ (m : List Int) : Int := m.foldr (· + ·) 0
theorem sumJ_le : ∀ {a b : List Int}, LeM a b → sumJ a ≤ sumJ b ∧ (sumJ a = sumJ b → a = b)
  | [], [], _ => ⟨Int.le_refl _, fun _ => rfl⟩
  | [], _ :: _, h => by have := h.1; simp at this
  | _ :: _, [], h => by have := h.1; simp at this
  | x :: a, y :: b, h => by
    have h0 : x ≤ y := h.2 0
    have ht : LeM a b := ⟨by have := h.1; simpa using this, fun i => h.2 (i + 1)⟩
    have ih := sumJ_le ht
    have hx : sumJ (x :: a) = x + sumJ a := rfl
    have hy : sumJ (y :: b) = y + sumJ b := rfl
    refine ⟨by omega, fun e => ?_⟩
    rw [ih.2 (by omega), show x = y by omega]
theorem sumJ_bd {most : Int} : ∀ {m : List Int}, (∀ i, i < m.length → m.getD i 0 ≤ most) → sumJ m ≤ m.length * most
  | [], _ => by simp [sumJ]
  | x :: m, h => by
    have h0 : x ≤ most := h 0 (by simp)
    have ih := sumJ_bd (most := most) (m := m) (fun i hi => h (i + 1) (by simpa using hi))
    have hx : sumJ (x :: m) = x + sumJ m := rfl
    have e : ((x :: m).length : Int) * most = m.length * most + most := by
      rw [List.length_cons, Int.natCast_add, Int.add_mul]; simp
    omega
theorem sumJ_pos : ∀ {m : List Int}, (∀ i, 0 ≤ m.getD i 0) → 0 ≤ sumJ m
  | [], _ => Int.le_refl _
  | x :: m, h => by
    have h0 : 0 ≤ x := h 0
    have ih := sumJ_pos (m := m) (fun i => h (i + 1))
    have hx : sumJ (x :: m) = x + sumJ m := rfl
    omega
theorem sumJ_up {l : List Cl} {m : List Int} (h : RightJ m.length l) (hne : rndJ l m ≠ m) : sumJ m < sumJ (rndJ l m) := by
  have := sumJ_le (rndJ_le h)
  by_cases e : sumJ m = sumJ (rndJ l m)
  · exact absurd (this.2 e).symm hne
  · omega
/-- As long as rounds change something, the sum grows. -/
theorem sumJ_it {l : List Cl} {m : List Int} (h : RightJ m.length l) : ∀ j : Nat, (∀ i, 1 ≤ i → i ≤ j → itJ l m i ≠ itJ l m (i - 1)) → sumJ m + j ≤ sumJ (itJ l m j)
  | 0, _ => by simp [itJ]
  | j + 1, hne => by
    have ih := sumJ_it h j (fun i h1 h2 => hne i h1 (by omega))
    have h2 := hne (j + 1) (by omega) (Nat.le_refl _)
    have := sumJ_up (l := l) (m := itJ l m j) (by rw [itJ_len]; exact h) h2
    show sumJ m + ((j + 1 : Nat) : Int) ≤ sumJ (rndJ l (itJ l m j))
    omega
/-- How many rounds there are at most. -/
theorem EndJ.bound {l : List Cl} {m : List Int} {most : Int} {j : Nat} (h : RightJ m.length l) (h0 : ∀ i, 0 ≤ m.getD i 0) (hm : ∀ i, i < m.length → m.getD i 0 ≤ most) (he : EndJ l m most j) : (j : Int) ≤ m.length * most + 1 := by
  obtain ⟨h1, _, h3⟩ := he
  have hs := sumJ_it h (j - 1) (fun i a b => (h3 i a (by omega)).2)
  have hp := sumJ_pos h0
  have hb : sumJ (itJ l m (j - 1)) ≤ m.length * most := by
    by_cases e : 1 ≤ j - 1
    · have := sumJ_bd (grB_no.1 (h3 (j - 1) e (by omega)).1)
      rwa [itJ_len] at this
    · have e0 : j - 1 = 0 := by omega
      rw [e0]
      exact sumJ_bd hm
  omega
/-- The rounds end. -/
theorem ends {l : List Cl} {m : List Int} {most : Int} (h : RightJ m.length l) : ∃ j, EndJ l m most j := by
  refine Classical.byContradiction fun hno => ?_
  have all : ∀ j : Nat, ∀ i, 1 ≤ i → i ≤ j → grB most (itJ l m i) = false ∧ itJ l m i ≠ itJ l m (i - 1) := by
    intro j
    induction j with
    | zero => intro i h1 h2; omega
    | succ j ih =>
      intro i h1 h2
      by_cases e : i ≤ j
      · exact ih i h1 e
      · obtain rfl : i = j + 1 := by omega
        refine Classical.byContradiction fun hn => hno ⟨j + 1, by omega, ?_, fun k a b => ih k a (by omega)⟩
        by_cases hg : grB most (itJ l m (j + 1)) = true
        · exact .inl hg
        · refine .inr (Classical.byContradiction fun he => hn ⟨Bool.eq_false_iff.2 hg, he⟩)
  have key : ∀ j : Nat, 1 ≤ j → sumJ m + j ≤ m.length * most := fun j hj => by
    have h1 := sumJ_it h j (fun i a b => (all j i a b).2)
    have h2 := sumJ_bd (grB_no.1 (all j j hj (Nat.le_refl _)).1)
    rw [itJ_len] at h2
    omega
  have := key ((m.length * most - sumJ m).toNat + 1) (by omega)
  omega
/-- The least model that is no less than m. -/
def LeastJ (l : List Cl) (m a : List Int) : Prop := LeM m a ∧ ModJ l a ∧ ∀ b, LeM m b → ModJ l b → LeM a b
theorem LeastJ.uniq {l : List Cl} {m a b : List Int} (h : LeastJ l m a) (k : LeastJ l m b) : a = b := (h.2.2 b k.1 k.2.1).anti (k.2.2 a h.1 h.2.1)
theorem EndJ.least {l : List Cl} {m : List Int} {most : Int} {j : Nat} (h : RightJ m.length l) (he : EndJ l m most j) (hg : grB most (itJ l m j) = false) : LeastJ l m (itJ l m j) := by
  obtain ⟨h1, h2, _⟩ := he
  rcases h2 with h2 | h2
  · rw [hg] at h2; cases h2
  · obtain ⟨k, rfl⟩ : ∃ k, j = k + 1 := ⟨j - 1, by omega⟩
    have hk : RightJ (itJ l m k).length l := by rw [itJ_len]; exact h
    have hm := rndJ_mod hk h2
    refine ⟨itJ_le h _, ?_, fun b hb hmb => itJ_below h hb hmb _⟩
    rw [h2]; exact hm
/-- Is there a model that is no less, there is a least one. -/
theorem least_ex {l : List Cl} {m a : List Int} (h : RightJ m.length l) (hm : LeM m a) (ha : ModJ l a) : ∃ b, LeastJ l m b := by
  obtain ⟨most, hmost⟩ : ∃ most : Int, ∀ i, i < a.length → a.getD i 0 ≤ most := by
    clear hm ha
    induction a with
    | nil => exact ⟨0, fun i hi => by simp at hi⟩
    | cons x r ih =>
      obtain ⟨t, ht⟩ := ih
      refine ⟨max x t, fun i hi => ?_⟩
      cases i with
      | zero => show x ≤ _; omega
      | succ i => have := ht i (by simpa using hi); show r.getD i 0 ≤ _; omega
  obtain ⟨j, hj⟩ := ends (most := most) h
  have hb := itJ_below h hm ha j
  refine ⟨_, hj.least h (grB_no.2 fun i hi => Int.le_trans (hb.2 i) (hmost i (by have := hb.1; omega)))⟩

/-- THE LIMIT. All values above t are less by one. -/
def lowerJ (t : Int) (m : List Int) : List Int := m.map fun x => if t < x then x - 1 else x
theorem lowerJ_at {t : Int} {m : List Int} {i : Nat} (hi : i < m.length) : (lowerJ t m).getD i 0 = if t < m.getD i 0 then m.getD i 0 - 1 else m.getD i 0 := by
  unfold lowerJ
  rw [List.getD_eq_getElem?_getD, List.getD_eq_getElem?_getD, List.getElem?_map, List.getElem?_eq_getElem hi]
  rfl
theorem lowerJ_len (t : Int) (m : List Int) : (lowerJ t m).length = m.length := by simp [lowerJ]
theorem getD_out {m : List Int} {i : Nat} (h : m.length ≤ i) : m.getD i 0 = 0 := by
  rw [List.getD_eq_getElem?_getD, List.getElem?_eq_none h]; rfl
theorem lowA_mem (m : List Int) : ∀ (l : List At) (s : Int), (lowA m s l = s ∨ ∃ x ∈ l, lowA m s l = valA m x) ∧ ∀ x ∈ l, lowA m s l ≤ valA m x
  | [], s => ⟨.inl rfl, fun x hx => by cases hx⟩
  | y :: r, s => by
    have ih := lowA_mem m r (min s (valA m y))
    have hle := lowA_le m r (min s (valA m y))
    have e : lowA m s (y :: r) = lowA m (min s (valA m y)) r := rfl
    rw [e]
    refine ⟨?_, fun x hx => ?_⟩
    · rcases ih.1 with h | ⟨x, hx, h⟩
      · by_cases hs : s ≤ valA m y
        · exact .inl (by omega)
        · exact .inr ⟨y, by simp, by omega⟩
      · exact .inr ⟨x, by simp [hx], h⟩
    · rcases List.mem_cons.1 hx with rfl | hx
      · omega
      · exact ih.2 x hx
theorem ask_le {c : Cl} {m : List Int} {x : At} (hx : x ∈ c.1) : askC c m ≤ valA m x + c.2.2 := by
  have := (lowA_mem m c.1 (valA m (c.1.getD 0 at0))).2 x hx
  unfold askC
  omega
theorem mostF_mem (c : Cl) : ∀ (l : List At) (s : Int), ∀ x ∈ l, c.2.2 - x.2 ≤ mostF s c l
  | [], _, _, hx => by cases hx
  | y :: r, s, x, hx => by
    have e : mostF s c (y :: r) = mostF (max s (c.2.2 - y.2)) c r := rfl
    rw [e]
    rcases List.mem_cons.1 hx with rfl | hx
    · have := mostF_ge c r (max s (c.2.2 - x.2)); omega
    · exact mostF_mem c r _ x hx
theorem mostD_ge : ∀ (l : List Cl) (s : Int), s ≤ mostD s l
  | [], _ => Int.le_refl _
  | c :: r, s => by
    have h1 := mostF_ge c c.1 s
    have h2 := mostD_ge r (mostF s c c.1)
    show s ≤ mostD (mostF s c c.1) r
    omega
theorem mostD_mem : ∀ (l : List Cl) (s : Int), ∀ c ∈ l, ∀ x ∈ c.1, c.2.2 - x.2 ≤ mostD s l
  | [], _, _, hc, _, _ => by cases hc
  | d :: r, s, c, hc, x, hx => by
    show _ ≤ mostD (mostF s d d.1) r
    rcases List.mem_cons.1 hc with rfl | hc
    · have h1 := mostF_mem c c.1 s x hx
      have h2 := mostD_ge r (mostF s c c.1)
      omega
    · exact mostD_mem r _ c hc x hx
/-- Where nothing lies between t and t + the most, or nothing is at most t, lowering keeps a model. -/
theorem lowerJ_mod {l : List Cl} {m : List Int} {t : Int} (h : RightJ m.length l) (hm : ModJ l m) (hgap : ∀ i, i < m.length → t < m.getD i 0 → t + mostD 0 l < m.getD i 0 ∨ ∀ k, k < m.length → t < m.getD k 0) : ModJ l (lowerJ t m) := by
  intro c hc
  obtain ⟨ht, hf, ha⟩ := clB_of (h c hc)
  have hl := frB_of hf
  have hto := atB_of ht
  have hold := of_decide_eq_false (hm c hc)
  have hT := lowerJ_at (t := t) (m := m) (i := c.2.1.toNat) (by omega)
  have hle : LeM (lowerJ t m) m := ⟨lowerJ_len t m, fun i => by
    by_cases hi : i < m.length
    · rw [lowerJ_at hi]; split <;> omega
    · rw [getD_out (by rw [lowerJ_len]; omega), getD_out (by omega)]; exact Int.le_refl _⟩
  have hask := hle.ask (h c hc)
  refine decide_eq_false ?_
  rw [hT]
  by_cases hS : t < m.getD c.2.1.toNat 0
  · rw [if_pos hS]
    by_cases hall : ∃ x ∈ c.1, ¬ t < m.getD x.1.toNat 0
    · obtain ⟨x, hx, hxt⟩ := hall
      have hxa := atB_of (List.all_eq_true.1 ha x hx)
      have h1 := ask_le (m := lowerJ t m) hx
      have h2 := lowerJ_at (t := t) (m := m) (i := x.1.toNat) (by omega)
      rw [if_neg hxt] at h2
      have h3 := mostD_mem l 0 c hc x hx
      rcases hgap c.2.1.toNat (by omega) hS with hg | hg
      · unfold valA at h1; omega
      · exact absurd (hg x.1.toNat (by omega)) hxt
    · have hv : ∀ x ∈ c.1, valA (lowerJ t m) x = valA m x + -1 := fun x hx => by
        have hxa := atB_of (List.all_eq_true.1 ha x hx)
        have h2 := lowerJ_at (t := t) (m := m) (i := x.1.toNat) (by omega)
        rw [if_pos (Classical.byContradiction fun hn => hall ⟨x, hx, hn⟩)] at h2
        unfold valA; omega
      have := lowA_shift m (lowerJ t m) (-1) c.1 (valA m (c.1.getD 0 at0)) (valA (lowerJ t m) (c.1.getD 0 at0)) hv (hv _ (getD_mem at0 (by omega)))
      unfold askC at hold ⊢
      omega
  · rw [if_neg hS]
    omega
theorem countP_lt {p q : Int → Bool} : ∀ {l : List Int}, (∀ x, p x = true → q x = true) → (∃ x ∈ l, q x = true ∧ p x = false) → l.countP p < l.countP q
  | [], _, h => by obtain ⟨x, hx, _⟩ := h; cases hx
  | y :: r, hpq, h => by
    have hle : r.countP p ≤ r.countP q := List.countP_mono_left fun x _ => hpq x
    obtain ⟨x, hx, h1, h2⟩ := h
    rw [List.countP_cons, List.countP_cons]
    rcases List.mem_cons.1 hx with rfl | hx
    · rw [h1, h2]; simp; omega
    · have ih := countP_lt (l := r) hpq ⟨x, hx, h1, h2⟩
      cases hp : p y with
      | true => rw [hpq y hp]; simp; omega
      | false => cases q y <;> simp <;> omega
/-- Values of the least model are at most the greatest one it began with, and the variables but one times the most. -/
theorem LeastJ.limit {l : List Cl} {m a : List Int} {B : Int} (h : RightJ m.length l) (hl : LeastJ l m a) (hm : ∀ i, i < m.length → m.getD i 0 ≤ B) : ∀ i, i < a.length → a.getD i 0 ≤ B + (a.length - 1) * mostD 0 l := by
  have hD := mostD_ge l 0
  have hra : RightJ a.length l := by rw [← hl.1.1]; exact h
  -- what can be lowered isn't there
  have low : ∀ t, B ≤ t → (∃ i, i < a.length ∧ t < a.getD i 0) → ¬ (∀ i, i < a.length → t < a.getD i 0 → t + mostD 0 l < a.getD i 0 ∨ ∀ k, k < a.length → t < a.getD k 0) := fun t ht hex hgap => by
    obtain ⟨i, hi, hti⟩ := hex
    have hmod := lowerJ_mod hra hl.2.1 hgap
    have hge : LeM m (lowerJ t a) := ⟨by rw [lowerJ_len]; exact hl.1.1, fun k => by
      by_cases hk : k < a.length
      · rw [lowerJ_at hk]
        have h1 := hl.1.2 k
        have h2 := hm k (by have := hl.1.1; omega)
        split <;> omega
      · rw [getD_out (by have := hl.1.1; omega), getD_out (by rw [lowerJ_len]; omega)]; exact Int.le_refl _⟩
    have := (hl.2.2 _ hge hmod).2 i
    rw [lowerJ_at hi, if_pos hti] at this
    omega
  have cnt : ∀ k : Nat, (k : Int) + 1 ≤ (a.countP fun x => decide (x ≤ B + k * mostD 0 l)) ∨ ∀ i, i < a.length → a.getD i 0 ≤ B + k * mostD 0 l := by
    intro k
    induction k with
    | zero =>
      by_cases hex : ∃ i, i < a.length ∧ B < a.getD i 0
      · left
        have h1 := low B (Int.le_refl _) hex
        have h2 : ∃ k, k < a.length ∧ ¬ B < a.getD k 0 := Classical.byContradiction fun hn => h1 fun i _ _ => .inr fun k hk => Classical.byContradiction fun hk2 => hn ⟨k, hk, hk2⟩
        obtain ⟨k, hk, hk2⟩ := h2
        have : 0 < a.countP fun x => decide (x ≤ B + ((0 : Nat) : Int) * mostD 0 l) := List.countP_pos_iff.2 ⟨a.getD k 0, getD_mem 0 hk, decide_eq_true (by rw [show ((0 : Nat) : Int) * mostD 0 l = 0 by simp]; omega)⟩
        omega
      · right
        intro i hi
        have : ¬ B < a.getD i 0 := fun h => hex ⟨i, hi, h⟩
        rw [show ((0 : Nat) : Int) * mostD 0 l = 0 by simp]; omega
    | succ k ih =>
      have e : B + ((k + 1 : Nat) : Int) * mostD 0 l = B + k * mostD 0 l + mostD 0 l := by
        rw [Int.natCast_add, Int.add_mul]; simp; omega
      have hk0 : 0 ≤ (k : Int) * mostD 0 l := Int.mul_nonneg (by omega) hD
      rw [e]
      have hBt : B ≤ B + k * mostD 0 l := by omega
      generalize B + k * mostD 0 l = t at ih hBt ⊢
      by_cases hex : ∃ i, i < a.length ∧ t < a.getD i 0
      · rcases ih with ih | ih
        · left
          have h1 := low t hBt hex
          have h2 : ∃ i, i < a.length ∧ t < a.getD i 0 ∧ a.getD i 0 ≤ t + mostD 0 l := Classical.byContradiction fun hn => h1 fun i hi hti => .inl (Classical.byContradiction fun hk2 => hn ⟨i, hi, hti, by omega⟩)
          obtain ⟨i, hi, h3, h4⟩ := h2
          have := countP_lt (p := fun x => decide (x ≤ t)) (q := fun x => decide (x ≤ t + mostD 0 l)) (l := a) (fun x hx => by simp at hx ⊢; omega) ⟨a.getD i 0, getD_mem 0 hi, decide_eq_true h4, decide_eq_false (by omega)⟩
          omega
        · obtain ⟨i, hi, h3⟩ := hex
          have := ih i hi
          omega
      · right
        intro i hi
        have : ¬ t < a.getD i 0 := fun h => hex ⟨i, hi, h⟩
        omega
  intro i hi
  have he : (a.length : Int) - 1 = ((a.length - 1 : Nat) : Int) := by omega
  rw [he]
  rcases cnt (a.length - 1) with h1 | h1
  · have hle := List.countP_le_length (p := fun x => decide (x ≤ B + ((a.length - 1 : Nat) : Int) * mostD 0 l)) (l := a)
    have heq : a.countP (fun x => decide (x ≤ B + ((a.length - 1 : Nat) : Int) * mostD 0 l)) = a.length := by omega
    have := List.countP_eq_length.1 heq _ (getD_mem 0 hi)
    exact of_decide_eq_true this
  · exact h1 i hi
/-- J4: where the rounds end with a value above the limit, no model is no less. -/
theorem great_none {l : List Cl} {m a : List Int} {B : Int} {j : Nat} (h : RightJ m.length l) (hB : ∀ i, i < m.length → m.getD i 0 ≤ B) (hg : grB (B + (m.length - 1) * mostD 0 l) (itJ l m j) = true) (hm : LeM m a) : ¬ ModJ l a := fun ha => by
  obtain ⟨b, hb⟩ := least_ex h hm ha
  have hlim := hb.limit h hB
  have hle := itJ_below h hb.1 hb.2.1 j
  have : grB (B + (m.length - 1) * mostD 0 l) (itJ l m j) = false := grB_no.2 fun i hi => by
    have h1 := hlim i (by have := hle.1; omega)
    rw [← hb.1.1] at h1
    exact Int.le_trans (hle.2 i) h1
  rw [hg] at this
  cases this
/-- There is a model that is no less, if there is one at all. -/
theorem mod_more {l : List Cl} {m a : List Int} (h : RightJ m.length l) (hl : a.length = m.length) (ha : ModJ l a) : ∃ b, LeM m b ∧ ModJ l b := by
  obtain ⟨k, hk0, hk⟩ : ∃ k : Int, 0 ≤ k ∧ ∀ i, i < m.length → m.getD i 0 ≤ a.getD i 0 + k := by
    clear h ha
    induction m generalizing a with
    | nil => exact ⟨0, Int.le_refl _, fun i hi => by simp at hi⟩
    | cons x r ih =>
      cases a with
      | nil => simp at hl
      | cons y a =>
        obtain ⟨k, hk0, hk⟩ := ih (a := a) (by simpa using hl)
        refine ⟨max k (x - y), by omega, fun i hi => ?_⟩
        cases i with
        | zero => show x ≤ y + _; omega
        | succ i => have := hk i (by simpa using hi); show r.getD i 0 ≤ a.getD i 0 + _; omega
  have hp : PtM (a.map (· + k)) m.length (fun j => a.getD j 0 + k) := ⟨by simp [hl], fun j hj => by
    show _ = a.getD j 0 + k
    rw [List.getD_eq_getElem?_getD, List.getD_eq_getElem?_getD, List.getElem?_map, List.getElem?_eq_getElem (by omega)]; rfl⟩
  refine ⟨a.map (· + k), ⟨by simp [hl], fun i => ?_⟩, fun c hc => (brk_up (h c hc) hl hp).trans (ha c hc)⟩
  by_cases hi : i < m.length
  · rw [hp.2 i hi]; exact hk i hi
  · rw [getD_out (by omega), getD_out (by simp; omega)]; exact Int.le_refl _
/-- What is told of the rounds: the model they end with, and true; or nothing and false. -/
def TellJ (l : List Cl) (m : List Int) (most : Int) (a : List Int) (is : Bool) (looks : Int) : Prop :=
  ∃ j, EndJ l m most j ∧ is = !grB most (itJ l m j) ∧ (a = if grB most (itJ l m j) = true then [] else itJ l m j) ∧ looks = j * l.length
theorem TellJ.uniq {l : List Cl} {m a b : List Int} {most x y : Int} {is are : Bool} (h : TellJ l m most a is x) (k : TellJ l m most b are y) : a = b ∧ is = are ∧ x = y := by
  obtain ⟨j, h1, rfl, rfl, rfl⟩ := h
  obtain ⟨i, k1, rfl, rfl, rfl⟩ := k
  obtain rfl := h1.uniq k1
  exact ⟨rfl, rfl, rfl⟩
theorem TellJ.cases {l : List Cl} {m a : List Int} {B x : Int} {is : Bool} (h : RightJ m.length l) (hB : ∀ i, i < m.length → m.getD i 0 ≤ B) (ht : TellJ l m (B + (m.length - 1) * mostD 0 l) a is x) :
    (is = true ∧ LeastJ l m a ∧ ∀ i, i < a.length → a.getD i 0 ≤ B + (m.length - 1) * mostD 0 l) ∨ (is = false ∧ a = [] ∧ ∀ b, LeM m b → ¬ ModJ l b) := by
  obtain ⟨j, he, rfl, rfl, rfl⟩ := ht
  cases hg : grB (B + (m.length - 1) * mostD 0 l) (itJ l m j) with
  | true => exact .inr ⟨rfl, rfl, fun b hb => great_none h hB hg hb⟩
  | false => exact .inl ⟨rfl, he.least h hg, grB_no.1 hg⟩
theorem TellJ.yes {l : List Cl} {m a b : List Int} {B x : Int} {is : Bool} (h : RightJ m.length l) (hB : ∀ i, i < m.length → m.getD i 0 ≤ B) (ht : TellJ l m (B + (m.length - 1) * mostD 0 l) a is x) (hb : b.length = m.length) (hm : ModJ l b) : is = true := by
  rcases ht.cases h hB with ⟨h1, _⟩ | ⟨_, _, h1⟩
  · exact h1
  · obtain ⟨c, h2, h3⟩ := mod_more h hb hm
    exact absurd h3 (h1 c h2)
/-- Which clauses don't hold: none. -/
theorem brkTo_none {m : List Int} {l : List Cl} : ∀ k : Nat, brkTo m l k = [] ↔ ∀ i, i < k → brkB m (l.getD i cl0) = false
  | 0 => ⟨fun _ i hi => by omega, fun _ => rfl⟩
  | k + 1 => by
    rw [brkTo_succ, List.append_eq_nil_iff, brkTo_none k]
    constructor
    · rintro ⟨h1, h2⟩ i hi
      by_cases e : i < k
      · exact h1 i e
      · obtain rfl : i = k := by omega
        cases hb : brkB m (l.getD i cl0) with
        | false => rfl
        | true => rw [hb, if_pos rfl] at h2; cases h2
    · intro h
      exact ⟨fun i hi => h i (by omega), by rw [h k (by omega)]; rfl⟩
theorem brkL_none {m : List Int} {l : List Cl} : brkL m l = [] ↔ ModJ l m := by
  unfold brkL
  rw [brkTo_none]
  constructor
  · intro h c hc
    obtain ⟨i, hi, rfl⟩ := List.getElem_of_mem hc
    have := h i hi
    rwa [List.getD_eq_getElem?_getD, List.getElem?_eq_getElem hi] at this
  · exact fun h i hi => h _ (getD_mem cl0 hi)
def zerosJ (V : Nat) : List Int := List.replicate V 0
theorem zerosJ_len (V : Nat) : (zerosJ V).length = V := by simp [zerosJ]
theorem zerosJ_at (V i : Nat) : (zerosJ V).getD i 0 = 0 := by
  by_cases hi : i < V
  · unfold zerosJ; rw [List.getD_eq_getElem?_getD]; simp [hi]
  · exact getD_out (by rw [zerosJ_len]; omega)
theorem zerosJ_le {a : List Int} {V : Nat} (hl : a.length = V) (h : natsB a = true) : LeM (zerosJ V) a := ⟨(zerosJ_len V).trans hl.symm, fun i => by rw [zerosJ_at]; exact (natsB_getD h i).1⟩
/-- The clauses in another order, or some of them. -/
theorem ModJ.sub {l k : List Cl} {m : List Int} (h : ModJ l m) (hs : ∀ c ∈ k, c ∈ l) : ModJ k m := fun c hc => h c (hs c hc)
theorem LeastJ.same {l k : List Cl} {m a : List Int} (h : LeastJ l m a) (h1 : ∀ c ∈ k, c ∈ l) (h2 : ∀ c ∈ l, c ∈ k) : LeastJ k m a := ⟨h.1, h.2.1.sub h1, fun b hb hm => h.2.2 b hb (hm.sub h2)⟩
/-- How great values may become within a round. -/
theorem stepJ_bd {m : List Int} {c : Cl} {X : Int} (hc : clB m.length c = true) (h : ∀ i, 0 ≤ m.getD i 0 ∧ m.getD i 0 ≤ X) : ∀ i, 0 ≤ (stepJ m c).getD i 0 ∧ (stepJ m c).getD i 0 ≤ X + 1000 := by
  intro i
  have hle := (stepJ_le hc).2 i
  have hi := h i
  refine ⟨by omega, ?_⟩
  cases hb : brkB m c with
  | true =>
    rw [stepJ_yes hb, getD_set _ (cl_to hc)]
    obtain ⟨ht, hf, ha⟩ := clB_of hc
    have hl := frB_of hf
    have h0 := atB_of (all_getD ha at0 (i := 0) (by omega))
    have hto := atB_of ht
    have h1 := ask_le (c := c) (m := m) (getD_mem at0 (i := 0) (by omega))
    have h2 := h (c.1.getD 0 at0).1.toNat
    unfold valA at h1
    split <;> omega
  | false => rw [stepJ_no hb]; omega
theorem rndJ_bd : ∀ {l : List Cl} {m : List Int} {X : Int}, RightJ m.length l → (∀ i, 0 ≤ m.getD i 0 ∧ m.getD i 0 ≤ X) → ∀ i, 0 ≤ (rndJ l m).getD i 0 ∧ (rndJ l m).getD i 0 ≤ X + 1000 * l.length
  | [], m, X, _, h => fun i => by have := h i; show 0 ≤ m.getD i 0 ∧ m.getD i 0 ≤ _; simp only [List.length_nil]; omega
  | c :: r, m, X, hr, h => fun i => by
    have hc := hr c (by simp)
    have := rndJ_bd (l := r) (m := stepJ m c) (X := X + 1000) (by rw [stepJ_len]; exact fun d hd => hr d (by simp [hd])) (stepJ_bd hc h) i
    have e : (rndJ (c :: r) m) = rndJ r (stepJ m c) := rfl
    rw [e]
    simp only [List.length_cons]
    omega
/-- One round more, where the rounds didn't end. -/
def GoJ (l : List Cl) (m : List Int) (most : Int) (j : Nat) : Prop := ∀ i, 1 ≤ i → i ≤ j → grB most (itJ l m i) = false ∧ itJ l m i ≠ itJ l m (i - 1)
theorem GoJ.zero (l : List Cl) (m : List Int) (most : Int) : GoJ l m most 0 := fun i h1 h2 => by omega
theorem GoJ.next {l : List Cl} {m : List Int} {most : Int} {j : Nat} (h : GoJ l m most j) (h1 : grB most (rndJ l (itJ l m j)) = false) (h2 : rndJ l (itJ l m j) ≠ itJ l m j) : GoJ l m most (j + 1) := fun i a b => by
  by_cases e : i ≤ j
  · exact h i a e
  · obtain rfl : i = j + 1 := by omega
    exact ⟨h1, h2⟩
theorem GoJ.great {l : List Cl} {m : List Int} {most : Int} {j : Nat} (h : GoJ l m most j) (h1 : grB most (rndJ l (itJ l m j)) = true) : TellJ l m most [] false (((j + 1 : Nat) : Int) * l.length) :=
  ⟨j + 1, ⟨by omega, .inl h1, fun i a b => h i a (by omega)⟩, by show false = !grB most (rndJ l (itJ l m j)); rw [h1]; rfl, by show [] = if grB most (rndJ l (itJ l m j)) = true then _ else _; rw [h1]; rfl, rfl⟩
theorem GoJ.same {l : List Cl} {m : List Int} {most : Int} {j : Nat} (h : GoJ l m most j) (h1 : grB most (rndJ l (itJ l m j)) = false) (h2 : rndJ l (itJ l m j) = itJ l m j) : TellJ l m most (itJ l m j) true (((j + 1 : Nat) : Int) * l.length) :=
  ⟨j + 1, ⟨by omega, .inr h2, fun i a b => h i a (by omega)⟩, by show true = !grB most (rndJ l (itJ l m j)); rw [h1]; rfl, by show _ = if grB most (rndJ l (itJ l m j)) = true then _ else rndJ l (itJ l m j); rw [h1, h2]; rfl, rfl⟩
/-- How many rounds have been at most, and how great the values are there. -/
theorem GoJ.bd {l : List Cl} {m : List Int} {most : Int} {j : Nat} (h : RightJ m.length l) (h0 : ∀ i, 0 ≤ m.getD i 0) (hm : ∀ i, i < m.length → m.getD i 0 ≤ most) (h1 : 0 ≤ most) (hg : GoJ l m most j) : (j : Int) ≤ m.length * most ∧ ∀ i, 0 ≤ (itJ l m j).getD i 0 ∧ (itJ l m j).getD i 0 ≤ most := by
  have hs := sumJ_it h j (fun i a b => (hg i a b).2)
  have hp := sumJ_pos h0
  have hle : ∀ i, i < (itJ l m j).length → (itJ l m j).getD i 0 ≤ most := by
    by_cases e : 1 ≤ j
    · exact grB_no.1 (hg j e (Nat.le_refl _)).1
    · obtain rfl : j = 0 := by omega
      exact hm
  have hb := sumJ_bd hle
  rw [itJ_len] at hb
  refine ⟨by omega, fun i => ⟨Int.le_trans (h0 i) ((itJ_le h j).2 i), ?_⟩⟩
  by_cases hi : i < (itJ l m j).length
  · exact hle i hi
  · rw [getD_out (by omega)]; exact h1
end Go.Proofs.Ytglggigndhbpcaa
