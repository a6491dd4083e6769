/- Levels put in the place of others, as plain functions of forests. No condition but those that stand in each statement. -/
import Derived.Test.YtcnhfoppfihhiaaStack
import Derived.Test.YtcnhfoppfihhiaaSpec
namespace Go.Proofs.Ytcnhfoppfihhiaa
open Go

/-- The level at a place of a list, as a list of that level alone. -/
def Fo.get : Fo → Nat → Fo
  | .nil, _ => .nil
  | .cons k n ks _, 0 => .cons k n ks .nil
  | .cons _ _ _ r, i + 1 => r.get i
/-- What is put in the place of a level, if anything is. -/
def sv (P Q : Fo) (k n : Int) : Option Fo := if k = 5 ∧ n < P.len then some (P.get n.toNat) else if k = 6 ∧ n < Q.len then some (Q.get n.toNat) else none
def sb1 (P Q : Fo) (k n : Int) (ks : Fo) : Fo := (sv P Q k n).getD (.cons k n ks .nil)
def sbF (P Q : Fo) : Fo → Fo
  | .nil => .nil
  | .cons k n ks r => (sb1 P Q k n (sbF P Q ks)).app (sbF P Q r)
/-- No number is below 0. -/
def noneg : Fo → Prop
  | .nil => True
  | .cons _ n ks r => 0 ≤ n ∧ noneg ks ∧ noneg r
theorem sv_5 {P Q : Fo} {n : Int} (h : n < P.len) : sv P Q 5 n = some (P.get n.toNat) := if_pos ⟨rfl, h⟩
theorem sv_5n {P Q : Fo} {n : Int} (h : ¬ n < P.len) : sv P Q 5 n = none := by
  unfold sv; rw [if_neg (fun e => h e.2), if_neg (fun e => by cases e.1)]
theorem sv_6 {P Q : Fo} {n : Int} (h : n < Q.len) : sv P Q 6 n = some (Q.get n.toNat) := by
  unfold sv; rw [if_neg (fun e => by cases e.1), if_pos ⟨rfl, h⟩]
theorem sv_6n {P Q : Fo} {n : Int} (h : ¬ n < Q.len) : sv P Q 6 n = none := by
  unfold sv; rw [if_neg (fun e => by cases e.1), if_neg (fun e => h e.2)]
theorem sv_no {P Q : Fo} {k n : Int} (h5 : k ≠ 5) (h6 : k ≠ 6) : sv P Q k n = none := by
  unfold sv; rw [if_neg (fun e => h5 e.1), if_neg (fun e => h6 e.1)]
theorem get_at : ∀ {F : Fo} {i : Nat}, i < F.len → ∃ k n ks, F.get i = .cons k n ks .nil
  | .nil, _, h => by simp [Fo.len] at h
  | .cons k n ks _, 0, _ => ⟨k, n, ks, rfl⟩
  | .cons _ _ _ r, i + 1, h => get_at (F := r) (by simp [Fo.len] at h; omega)
theorem noneg_app : ∀ {f g : Fo}, noneg (f.app g) → noneg f ∧ noneg g
  | .nil, _, h => ⟨trivial, h⟩
  | .cons k n ks r, g, h => by
    obtain ⟨h1, h2, h3⟩ := h
    obtain ⟨h4, h5⟩ := noneg_app (f := r) h3
    exact ⟨⟨h1, h2, h4⟩, h5⟩
theorem sbF_app (P Q : Fo) : ∀ f g : Fo, sbF P Q (f.app g) = (sbF P Q f).app (sbF P Q g)
  | .nil, _ => rfl
  | .cons k n ks r, g => by
    show (sb1 P Q k n (sbF P Q ks)).app (sbF P Q (r.app g)) = ((sb1 P Q k n (sbF P Q ks)).app (sbF P Q r)).app (sbF P Q g)
    rw [sbF_app P Q r g]
    generalize sb1 P Q k n (sbF P Q ks) = X
    generalize sbF P Q r = Y
    generalize sbF P Q g = Z
    induction X with
    | nil => rfl
    | cons a b c d _ ih => show Fo.cons a b c (d.app (Y.app Z)) = Fo.cons a b c ((d.app Y).app Z); rw [ih]
theorem sb1_len {P Q : Fo} {k n : Int} (ks : Fo) (hn : 0 ≤ n) : (sb1 P Q k n ks).len = 1 := by
  unfold sb1 sv
  split
  · rename_i h
    obtain ⟨_, _, _, e⟩ := get_at (F := P) (i := n.toNat) (by omega)
    simp [e, Fo.len]
  · split
    · rename_i h
      obtain ⟨_, _, _, e⟩ := get_at (F := Q) (i := n.toNat) (by omega)
      simp [e, Fo.len]
    · rfl
theorem sbF_len (P Q : Fo) : ∀ f : Fo, noneg f → (sbF P Q f).len = f.len
  | .nil, _ => rfl
  | .cons k n ks r, h => by
    show ((sb1 P Q k n (sbF P Q ks)).app (sbF P Q r)).len = r.len + 1
    rw [Fo.app_len, sb1_len _ h.1, sbF_len P Q r h.2.2]; omega
/-- The level at a place of a list, in memory. -/
theorem FoIn.get {w : World} {P : Nat → Prop} : ∀ {F : Fo} {i b o : Nat}, i < F.len → FoIn w P F b o → ∃ (k n : Int) (ks : Fo) (a : Option Addr) (cap : Nat), F.get i = .cons k n ks .nil ∧
    w.cell? ⟨b, o + i * 3, none⟩ = some (.int .i64 k) ∧ w.cell? ⟨b, o + i * 3 + 1, none⟩ = some (.int .i64 n) ∧ w.cell? ⟨b, o + i * 3 + 2, none⟩ = some (.slice a ks.len cap) ∧ SlIn w P ks a cap
  | .nil, _, _, _, h, _ => by simp [Fo.len] at h
  | .cons k n ks r, 0, b, o, _, h => by
    obtain ⟨h0, h1, ⟨a, cap, h2, h3⟩, _⟩ := h.first
    exact ⟨k, n, ks, a, cap, rfl, by simpa using h0, by simpa using h1, by simpa using h2, h3⟩
  | .cons _ _ _ r, i + 1, b, o, hl, h => by
    obtain ⟨k, n, ks, a, cap, e, h0, h1, h2, h3⟩ := FoIn.get (F := r) (i := i) (by simp [Fo.len] at hl; omega) h.2.2.2
    have q : o + 3 + i * 3 = o + (i + 1) * 3 := by omega
    rw [q] at h0 h1 h2
    exact ⟨k, n, ks, a, cap, e, h0, h1, h2, h3⟩
theorem slGet {w : World} {P : Nat → Prop} {F : Fo} {a : Option Addr} {cap i : Nat} (h : SlIn w P F a cap) (hi : i < F.len) : ∃ (b o : Nat) (k n : Int) (ks : Fo) (a' : Option Addr) (cap' : Nat), a = some ⟨b, o, none⟩ ∧ P b ∧ F.get i = .cons k n ks .nil ∧
    w.cell? ⟨b, o + i * 3, none⟩ = some (.int .i64 k) ∧ w.cell? ⟨b, o + i * 3 + 1, none⟩ = some (.int .i64 n) ∧ w.cell? ⟨b, o + i * 3 + 2, none⟩ = some (.slice a' ks.len cap') ∧ SlIn w P ks a' cap' := by
  obtain ⟨b, o, e, hb, hf⟩ := h.some (by omega)
  obtain ⟨k, n, ks, a', cap', h1, h2, h3, h4, h5⟩ := hf.get hi
  exact ⟨b, o, k, n, ks, a', cap', e, hb, h1, h2, h3, h4, h5⟩
end Go.Proofs.Ytcnhfoppfihhiaa
