/- The shape of a store and of what the law StoreSpoilt asks of it, whatever its values are: what keeps it. No condition but those that stand in each statement. -/
import Derived.Test.YtglggigndhbpcaaZLlaw
import Derived.Test.YtglggigndhbpcaaZHshape
import Derived.Test.YtglggigndhbpcaaZLonce12
namespace Go.Proofs.Ytglggigndhbpcaa
open Go.RowKit

/-- A few atoms, not in block X. -/
def AtO (X : Nat) (W : World) (n : Nat) (a : Option Addr) (cap : Nat) : Prop := n ≤ 1000 ∧ AtsS W (· ≠ X) n a cap
def IntsO (X : Nat) (W : World) (n : Nat) (a : Option Addr) (cap : Nat) : Prop :=
  n ≤ cap ∧ cap ≤ maxLen ∧ (a = none → cap = 0) ∧ (0 < n → ∃ b o, a = some ⟨b, o, none⟩ ∧ b ≠ X ∧ ∀ i, i < n → IntAt W b (o + i))
def ClsO (X : Nat) (W : World) (n : Nat) (a : Option Addr) (cap : Nat) : Prop :=
  n ≤ cap ∧ cap ≤ maxLen ∧ (a = none → cap = 0) ∧ (0 < n → ∃ b o, a = some ⟨b, o, none⟩ ∧ b ≠ X ∧
    ∀ i, i < n → (∃ a' n' c', W.cell? ⟨b, o + i * 3, none⟩ = some (.slice a' n' c') ∧ AtO X W n' a' c') ∧ IntAt W b (o + i * 3 + 1) ∧ IntAt W b (o + i * 3 + 2))
/-- Outside block X what is a number stays one, and what is a slice of atoms stays one. -/
def KdO (X : Nat) (w w' : World) : Prop := (∀ b o, b ≠ X → IntAt w b o → IntAt w' b o) ∧ ∀ b o a n c, b ≠ X → w.cell? ⟨b, o, none⟩ = some (.slice a n c) → AtO X w n a c → ∃ a' n' c', w'.cell? ⟨b, o, none⟩ = some (.slice a' n' c') ∧ AtO X w' n' a' c'
theorem AtO.kind {X : Nat} {w w' : World} (hi : ∀ b o, b ≠ X → IntAt w b o → IntAt w' b o) {n : Nat} {a : Option Addr} {cap : Nat} (h : AtO X w n a cap) : AtO X w' n a cap := by
  obtain ⟨h0, h1, h2, h3, h4⟩ := h
  refine ⟨h0, h1, h2, h3, fun hx => ?_⟩
  obtain ⟨b, o, e, hb, hf⟩ := h4 hx
  exact ⟨b, o, e, hb, fun i h => ⟨hi _ _ hb (hf i h).1, hi _ _ hb (hf i h).2⟩⟩
theorem IntsO.kind {X : Nat} {w w' : World} (k : KdO X w w') {n : Nat} {a : Option Addr} {cap : Nat} (h : IntsO X w n a cap) : IntsO X w' n a cap := by
  obtain ⟨h1, h2, h3, h4⟩ := h
  refine ⟨h1, h2, h3, fun hx => ?_⟩
  obtain ⟨b, o, e, hb, hf⟩ := h4 hx
  exact ⟨b, o, e, hb, fun i h => k.1 _ _ hb (hf i h)⟩
theorem ClsO.kind {X : Nat} {w w' : World} (k : KdO X w w') {n : Nat} {a : Option Addr} {cap : Nat} (h : ClsO X w n a cap) : ClsO X w' n a cap := by
  obtain ⟨h1, h2, h3, h4⟩ := h
  refine ⟨h1, h2, h3, fun hx => ?_⟩
  obtain ⟨b, o, e, hb, hf⟩ := h4 hx
  refine ⟨b, o, e, hb, fun i h => ?_⟩
  obtain ⟨⟨a', n', c', q1, q2⟩, q3, q4⟩ := hf i h
  exact ⟨k.2 _ _ a' n' c' hb q1 q2, k.1 _ _ hb q3, k.1 _ _ hb q4⟩
theorem KdO.below {X : Nat} {w w' : World} (hb : Below w.heap.size w w') : KdO X w w' := by
  have hi : ∀ b o, b ≠ X → IntAt w b o → IntAt w' b o := fun b o _ h => by
    have hl := h.lt
    obtain ⟨z, h⟩ := h
    exact ⟨z, (bcell hb b o hl).trans h⟩
  exact ⟨hi, fun b o a n c _ hc ha => ⟨a, n, c, (bcell hb b o (World.block_lt_of_cell? _ _ hc)).trans hc, ha.kind hi⟩⟩
theorem KdO.setInt {X : Nat} {w : World} {b o : Nat} (h : IntAt w b o) (z : Int) : KdO X w (w.setCell ⟨b, o, none⟩ (.int .i64 z)) := by
  obtain ⟨z0, h0⟩ := h
  have hs : (w.cell? ⟨b, o, none⟩).isSome = true := by rw [h0]; rfl
  have hi : ∀ b' o', b' ≠ X → IntAt w b' o' → IntAt (w.setCell ⟨b, o, none⟩ (.int .i64 z)) b' o' := fun b' o' _ h => by
    unfold IntAt
    rw [cell_set w b o b' o' _ hs]
    split
    · exact ⟨z, rfl⟩
    · exact h
  refine ⟨hi, fun b' o' a n c _ hc ha => ⟨a, n, c, ?_, ha.kind hi⟩⟩
  rw [cell_set w b o b' o' _ hs, if_neg]
  · exact hc
  · rintro ⟨rfl, rfl⟩
    rw [h0] at hc
    cases hc
theorem KdO.blocks {X : Nat} {w w' : World} (hk : ∀ b, b ≠ X → w'.heap[b]? = w.heap[b]?) : KdO X w w' := by
  have hi : ∀ b o, b ≠ X → IntAt w b o → IntAt w' b o := fun b o hb h => by
    obtain ⟨z, h⟩ := h
    exact ⟨z, (World.cell?_of_block (w := w) (hk b hb)).trans h⟩
  exact ⟨hi, fun b o a n c hb hc ha => ⟨a, n, c, (World.cell?_of_block (w := w) (hk b hb)).trans hc, ha.kind hi⟩⟩
theorem KdO.setX {X : Nat} (w : World) (o : Nat) (v : Value) : KdO X w (w.setCell ⟨X, o, none⟩ v) := KdO.blocks (fun b hb => Below.heap_setCell _ _ _ _ (show b ≠ X from hb))
theorem AtO.of {X : Nat} {w : World} {P : Nat → Prop} {l : List At} {a : Option Addr} {cap : Nat} (h : AtsIn w P l a cap) (hP : ∀ b, P b → b ≠ X) (hl : l.length ≤ 1000) : AtO X w l.length a cap := ⟨hl, (AtsS.of h).weak hP⟩
theorem IntsO.of {X : Nat} {w : World} {P : Nat → Prop} {l : List Int} {a : Option Addr} {cap : Nat} (h : IntsIn w P l a cap) (hP : ∀ b, P b → b ≠ X) : IntsO X w l.length a cap := by
  obtain ⟨h1, h2, h3, h4⟩ := h
  refine ⟨h1, h2, h3, fun hx => ?_⟩
  obtain ⟨b, o, e, hb, hf⟩ := h4 hx
  exact ⟨b, o, e, hP b hb, fun i hi => ⟨_, hf i hi⟩⟩
theorem ClsO.of {X : Nat} {w : World} {P : Nat → Prop} {l : List Cl} {a : Option Addr} {cap : Nat} (h : ClsIn w P l a cap) (hP : ∀ b, P b → b ≠ X) (hl : ∀ c ∈ l, c.1.length ≤ 1000) : ClsO X w l.length a cap := by
  obtain ⟨h1, h2, h3, h4⟩ := h
  refine ⟨h1, h2, h3, fun hx => ?_⟩
  obtain ⟨b, o, e, hb, hf⟩ := h4 hx
  refine ⟨b, o, e, hP b hb, fun i hi => ?_⟩
  obtain ⟨⟨a', c', q1, q2⟩, q3, q4⟩ := hf i hi
  exact ⟨⟨a', _, c', q1, AtO.of q2 hP (hl _ (getD_mem cl0 hi))⟩, ⟨_, q3⟩, ⟨_, q4⟩⟩
theorem IntsO.ints {X : Nat} {w : World} {n : Nat} {a : Option Addr} {cap : Nat} (h : IntsO X w n a cap) : ∃ l : List Int, l.length = n ∧ IntsIn w (· < w.heap.size) l a cap := by
  obtain ⟨h1, h2, h3, h4⟩ := h
  exact IntsS.ints ⟨h1, h2, h3, fun hx => by obtain ⟨b, o, e, _, hf⟩ := h4 hx; exact ⟨b, o, e, hf⟩⟩
theorem ClsO.cls {X : Nat} {w : World} {n : Nat} {a : Option Addr} {cap : Nat} (h : ClsO X w n a cap) : ∃ l : List Cl, l.length = n ∧ ClsIn w (· < w.heap.size) l a cap ∧ ∀ c ∈ l, c.1.length ≤ 1000 := by
  obtain ⟨h1, h2, h3, h4⟩ := h
  rcases Nat.eq_zero_or_pos n with h0 | h0
  · exact ⟨[], h0.symm, ⟨by simp, h2, h3, fun h => by simp at h⟩, fun c hc => by cases hc⟩
  · obtain ⟨b, o, e, _, hf⟩ := h4 h0
    obtain ⟨l, hl, hp⟩ := list_of (p := fun i (c : Cl) => ((∃ a' c', w.cell? ⟨b, o + i * 3, .none⟩ = .some (.slice a' c.1.length c') ∧ AtsIn w (· < w.heap.size) c.1 a' c') ∧ w.cell? ⟨b, o + i * 3 + 1, .none⟩ = .some (.int .i64 c.2.1) ∧ w.cell? ⟨b, o + i * 3 + 2, .none⟩ = .some (.int .i64 c.2.2)) ∧ c.1.length ≤ 1000) cl0 n (fun i hi => by
      obtain ⟨⟨a', n', c', q1, q2⟩, ⟨z1, q3⟩, ⟨z2, q4⟩⟩ := hf i hi
      obtain ⟨fr, hl, hat⟩ := q2.2.ats
      have := q2.1
      subst hl
      exact ⟨(fr, (z1, z2)), ⟨⟨a', c', q1, hat⟩, q3, q4⟩, this⟩)
    refine ⟨l, hl, ⟨by omega, h2, h3, fun _ => ⟨b, o, e, (hf 0 h0).2.1.lt, fun i hi => (hp i (by omega)).1⟩⟩, fun c hc => ?_⟩
    obtain ⟨i, hi, rfl⟩ := List.getElem_of_mem hc
    have := (hp i (by omega)).2
    rwa [List.getD_eq_getElem?_getD, List.getElem?_eq_getElem hi] at this
/-- What is told of, whatever its values are. -/
def SpE (w : World) (X A : Nat) (vs : Int) (x : Option Addr) (n1 c : Nat) (xm : Option Addr) (n2 cm : Nat) (y : Option Addr) (n3 d : Nat) (z : Option Addr) (n4 e : Nat) (W : World) : Prop :=
  BxS W X (.int .i64 vs) (.slice x n1 c) (.slice xm n2 cm) ∧ ClsO X W n1 x c ∧ IntsO X W n2 xm cm ∧ ClsO X W n3 y d ∧ AtO X W n4 z e ∧ (∃ av aw : Int, W.heap[A]? = some (.cells #[.int .i64 av, .int .i64 aw] 27 (0, 0))) ∧ A ≠ X ∧ n1 ≤ 64 ∧ n2 ≤ 20 ∧ n3 ≤ 3 ∧ w.heap.size ≤ A ∧ Below w.heap.size w W
section
variable {w W W' : World} {X A : Nat} {vs : Int} {x : Option Addr} {n1 c : Nat} {xm : Option Addr} {n2 cm : Nat} {y : Option Addr} {n3 d : Nat} {z : Option Addr} {n4 e : Nat}
theorem SpE.next (h : SpE w X A vs x n1 c xm n2 cm y n3 d z n4 e W) (hb : Below W.heap.size W W') : SpE w X A vs x n1 c xm n2 cm y n3 d z n4 e W' := by
  obtain ⟨h1, h2, h3, h4, h5, ⟨av, aw, h6⟩, h7, h8, h9, h10, h11, h12⟩ := h
  have k := KdO.below (X := X) hb
  exact ⟨(hb.block _ (lt_of_block h1)).trans h1, h2.kind k, h3.kind k, h4.kind k, h5.kind k.1, ⟨av, aw, (hb.block _ (lt_of_block h6)).trans h6⟩, h7, h8, h9, h10, h11, Below.step h12 hb (Nat.le_refl _)⟩
theorem SpE.setA (h : SpE w X A vs x n1 c xm n2 cm y n3 d z n4 e W) (u : Int) : SpE w X A vs x n1 c xm n2 cm y n3 d z n4 e (W.setCell ⟨A, 1, none⟩ (.int .i64 u)) := by
  obtain ⟨h1, h2, h3, h4, h5, ⟨av, aw, h6⟩, h7, h8, h9, h10, h11, h12⟩ := h
  have k := KdO.setInt (X := X) ⟨aw, cell_at h6 1⟩ u
  exact ⟨(Below.heap_setCell _ _ _ _ (show X ≠ A from fun e => h7 e.symm)).trans h1, h2.kind k, h3.kind k, h4.kind k, h5.kind k.1, ⟨av, u, heap_setCell_same W A 1 _ _ _ h6⟩, h7, h8, h9, h10, h11, h12.setCell (p := ⟨A, 1, none⟩) h11 _⟩
/-- A number is set, anywhere but in the two variables. -/
theorem SpE.set (h : SpE w X A vs x n1 c xm n2 cm y n3 d z n4 e W) {b o : Nat} (hi : IntAt W b o) (hX : b ≠ X) (hA : b ≠ A) (hb : w.heap.size ≤ b) (u : Int) : SpE w X A vs x n1 c xm n2 cm y n3 d z n4 e (W.setCell ⟨b, o, none⟩ (.int .i64 u)) := by
  obtain ⟨h1, h2, h3, h4, h5, ⟨av, aw, h6⟩, h7, h8, h9, h10, h11, h12⟩ := h
  have k := KdO.setInt (X := X) hi u
  exact ⟨(Below.heap_setCell _ _ _ _ (show X ≠ b from fun e => hX e.symm)).trans h1, h2.kind k, h3.kind k, h4.kind k, h5.kind k.1, ⟨av, aw, (Below.heap_setCell _ _ _ _ (show A ≠ b from fun e => hA e.symm)).trans h6⟩, h7, h8, h9, h10, h11, h12.setCell (p := ⟨b, o, none⟩) hb _⟩
theorem SpE.setV (h : SpE w X A vs x n1 c xm n2 cm y n3 d z n4 e W) (hX : w.heap.size ≤ X) (u : Int) : SpE w X A u x n1 c xm n2 cm y n3 d z n4 e (W.setCell ⟨X, 0, none⟩ (.int .i64 u)) := by
  obtain ⟨h1, h2, h3, h4, h5, ⟨av, aw, h6⟩, h7, h8, h9, h10, h11, h12⟩ := h
  have k := KdO.setX (X := X) W 0 (.int .i64 u)
  exact ⟨heap_setCell_same W X 0 _ _ _ h1, h2.kind k, h3.kind k, h4.kind k, h5.kind k.1, ⟨av, aw, (Below.heap_setCell _ _ _ _ (show A ≠ X from h7)).trans h6⟩, h7, h8, h9, h10, h11, h12.setCell (p := ⟨X, 0, none⟩) hX _⟩
theorem SpE.facts (h : SpE w X A vs x n1 c xm n2 cm y n3 d z n4 e W) : W.cell? ⟨X, 0, none⟩ = some (.int .i64 vs) ∧ W.cell? ⟨X, 1, none⟩ = some (.slice x n1 c) ∧ W.cell? ⟨X, 2, none⟩ = some (.slice xm n2 cm) ∧ ∃ av aw : Int, W.cell? ⟨A, 0, none⟩ = some (.int .i64 av) ∧ W.cell? ⟨A, 1, none⟩ = some (.int .i64 aw) ∧ (∀ o, W.frozen? ⟨A, o, none⟩ = false) := by
  obtain ⟨h1, _, _, _, _, ⟨av, aw, h6⟩, _⟩ := h
  exact ⟨cell_at h1 0, cell_at h1 1, cell_at h1 2, av, aw, cell_at h6 0, cell_at h6 1, free_of h6⟩
theorem SpE.told (h : SpE w X A vs x n1 c xm n2 cm y n3 d z n4 e W) (av aw : Int) :
    Calls Try.prog 13 #[.agg #[.int .i64 vs, .slice x n1 c, .slice xm n2 cm], .slice y n3 d, .agg #[.int .i64 av, .int .i64 aw], .slice z n4 e] W fun e w' => e = .returned (.bool true) ∧ Below W.heap.size W w' := by
  obtain ⟨_, h2, h3, h4, h5, _, _, h8, h9, h10, _⟩ := h
  obtain ⟨l, e1, k1, f1⟩ := h2.cls
  obtain ⟨m, e2, k2⟩ := h3.ints
  obtain ⟨kk, e3, k3, f3⟩ := h4.cls
  obtain ⟨b, e4, k4⟩ := h5.2.ats
  exact told_at k1 k2 k3 k4 e1 e2 e3 e4 (by omega) (by omega) h5.1 f1 f3
end
end Go.Proofs.Ytglggigndhbpcaa
