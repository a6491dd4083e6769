/- The contract of the document's own reader's number; a list of cells that stands for levels whose Kids lie in such and such blocks. -/
import Derived.Test.YtcgeipcffhfclaaLonce
import Derived.Test.YtcgeipcffhfclaaRget
import Derived.Test.YtcgeipcffhfclaaRow
import Derived.Deep.QuietTactic
import Derived.BigQuiet
namespace Go.Proofs.Ytcgeipcffhfclaa
open Go.RowKit

/-- The reader's block, whole. -/
def RrAt (w : World) (R : Nat) (s : ByteArray) (p m e : Nat) : Prop := w.heap[R]? = some (.cells #[.string s, .int .i64 p, .int .i64 m, .int .i64 e] 57 (0, 0))
theorem RrAt.facts {w : World} {R : Nat} {s : ByteArray} {p m e : Nat} (h : RrAt w R s p m e) : w.cell? ⟨R, 0, none⟩ = some (.string s) ∧ w.cell? ⟨R, 1, none⟩ = some (.int .i64 p) ∧ w.cell? ⟨R, 2, none⟩ = some (.int .i64 m) ∧ w.cell? ⟨R, 3, none⟩ = some (.int .i64 e) ∧ (∀ o, w.frozen? ⟨R, o, none⟩ = false) ∧ R < w.heap.size :=
  ⟨cell_at h 0, cell_at h 1, cell_at h 2, cell_at h 3, free_of h, lt_of_block h⟩
theorem RrAt.set1 {w : World} {R : Nat} {s : ByteArray} {p m e : Nat} (h : RrAt w R s p m e) (q : Nat) : RrAt (w.setCell ⟨R, 1, none⟩ (.int .i64 q)) R s q m e := by
  unfold RrAt at *
  simp only [World.setCell, Array.getElem?_modify, if_true, h]; rfl
theorem RrAt.set2 {w : World} {R : Nat} {s : ByteArray} {p m e : Nat} (h : RrAt w R s p m e) (q : Nat) : RrAt (w.setCell ⟨R, 2, none⟩ (.int .i64 q)) R s p q e := by
  unfold RrAt at *
  simp only [World.setCell, Array.getElem?_modify, if_true, h]; rfl
theorem RrAt.set3 {w : World} {R : Nat} {s : ByteArray} {p m e : Nat} (h : RrAt w R s p m e) (q : Nat) : RrAt (w.setCell ⟨R, 3, none⟩ (.int .i64 q)) R s p m q := by
  unfold RrAt at *
  simp only [World.setCell, Array.getElem?_modify, if_true, h]; rfl
theorem RrAt.draws {w : World} {R : Nat} {s : ByteArray} {p m e : Nat} (h : RrAt w R s p m e) (n : Nat) : RrAt (w.drewN n) R s p m e := h

set_option maxRecDepth 100000 in
set_option maxHeartbeats 1000000 in
theorem rlnum_ok (R : Nat) (s : ByteArray) (p m n q : Nat) (w : World) (hat : RrAt w R s p m 0) (hs : s.size ≤ maxLen) (hp : p ≤ s.size) (h : num s p = (n, q, 0)) :
    Calls Try.prog 36 #[.pointer (some ⟨R, 0, none⟩)] w fun e w' => e = .returned (.int .i64 n) ∧ RrAt w' R s q m 0 ∧ w.grownBy w' (some R) := by
  obtain ⟨c0, c1, c2, c3, fz, hR⟩ := hat.facts
  have HG : Hid (∀ W : World, Calls Try.prog 50 #[.string s, .int .i64 p] W fun e w' => e = .returned (.tuple #[.int .i64 n, .int .i64 q, .int .i64 0]) ∧ w' = W) := Lib.hid (fun W => (rget_any s p W hs hp).mono (by
    rintro e w' ⟨rfl, rfl⟩
    exact ⟨by show Ending.returned (rdV (num s p)) = _; rw [h]; rfl, rfl⟩))
  have HA := Lib.hid hat
  clear h hat
  go_enter Try.func36, Try.ntmps36
  go_wp2_with fail
  go_quiet ((go_at_call 50; exact Calls.quiet_of_same (HG.out _)))
  go_wp2_with fail
  go_ret
  exact ⟨rfl, (HA.out.draws _).set1 q, Only.after (Only.draws (Only.refl _ _) _) (Only.set _ _ _ _)⟩
set_option maxRecDepth 100000 in
set_option maxHeartbeats 1000000 in
theorem rlnum_no (R : Nat) (s : ByteArray) (p m er : Nat) (w : World) (hat : RrAt w R s p m 0) (hs : s.size ≤ maxLen) (hp : p ≤ s.size) (h : (num s p).2.2 = er) (he : er ≠ 0) :
    Calls Try.prog 36 #[.pointer (some ⟨R, 0, none⟩)] w fun e w' => e = .returned (.int .i64 0) ∧ RrAt w' R s p m er ∧ w.grownBy w' (some R) := by
  obtain ⟨c0, c1, c2, c3, fz, hR⟩ := hat.facts
  have HG : Hid (∀ W : World, Calls Try.prog 50 #[.string s, .int .i64 p] W fun e w' => e = .returned (.tuple #[.int .i64 (num s p).1, .int .i64 (num s p).2.1, .int .i64 er]) ∧ w' = W) := Lib.hid (fun W => (rget_any s p W hs hp).mono (by
    rintro e w' ⟨rfl, rfl⟩
    exact ⟨by show Ending.returned (rdV (num s p)) = _; rw [← h]; rfl, rfl⟩))
  have HA := Lib.hid hat
  have hne : ((er : Int) != 0) = true := by rw [bne_iff_ne]; omega
  generalize (num s p).1 = n1 at HG
  generalize (num s p).2.1 = n2 at HG
  clear h hat he
  go_enter Try.func36, Try.ntmps36
  go_wp2_with fail
  go_quiet ((go_at_call 50; exact Calls.quiet_of_same (HG.out _)))
  go_wp2_with fail
  go_ret
  exact ⟨rfl, (HA.out.draws _).set3 er, Only.after (Only.draws (Only.refl _ _) _) (Only.set _ _ _ _)⟩

/-- The cells that stand for levels whose Kids lie in blocks of which P holds. -/
def RepP (w : World) (P : Nat → Prop) : Fo → List Value → Prop
  | .nil, xs => xs = []
  | .cons k n ks r, xs => ∃ a cap xs', xs = .int .i64 k :: .int .i64 n :: .slice a ks.len cap :: xs' ∧ SlIn w P ks a cap ∧ RepP w P r xs'
theorem RepP.keep {w w' : World} {P Q : Nat → Prop} (hP : ∀ b, P b → w'.heap[b]? = w.heap[b]?) (hQ : ∀ b, P b → Q b) : ∀ {f : Fo} {xs : List Value}, RepP w P f xs → RepP w' Q f xs
  | .nil, _, h => h
  | .cons .., _, ⟨a, cap, xs', e, hs, hr⟩ => ⟨a, cap, xs', e, (hs.keep hP).weak hQ, hr.keep hP hQ⟩
theorem RepP.snoc {w : World} {P : Nat → Prop} {k n : Int} {F : Fo} {x : Option Addr} {c : Nat} (hs : SlIn w P F x c) : ∀ {f : Fo} {xs : List Value}, RepP w P f xs → RepP w P (f.app (.cons k n F .nil)) (xs ++ [.int .i64 k, .int .i64 n, .slice x F.len c])
  | .nil, _, h => by
    have h : _ = [] := h
    subst h
    exact ⟨x, c, [], rfl, hs, rfl⟩
  | .cons .., _, ⟨a, cap, xs', e, ha, hr⟩ => by
    subst e
    exact ⟨a, cap, _, rfl, ha, RepP.snoc hs hr⟩
theorem RepP.foIn {w : World} {P : Nat → Prop} : ∀ {f : Fo} {xs : List Value} {b o : Nat}, RepP w P f xs → (∀ j u, xs[j]? = some u → w.cell? ⟨b, o + j, none⟩ = some u) → FoIn w P f b o
  | .nil, _, _, _, _, _ => trivial
  | .cons .., _, b, o, ⟨a, cap, xs', e, hs, hr⟩, hc => by
    subst e
    refine FoIn.push (hc 0 _ rfl) (hc 1 _ rfl) (hc 2 _ rfl) hs (RepP.foIn hr (fun j u hu => ?_))
    have := hc (j + 3) u (by simpa using hu)
    rwa [show o + 3 + j = o + (j + 3) by omega]
theorem RepP.length {w : World} {P : Nat → Prop} : ∀ {f : Fo} {xs : List Value}, RepP w P f xs → xs.length = f.len * 3
  | .nil, xs, h => by have h : xs = [] := h; subst h; rfl
  | .cons .., xs, ⟨a, cap, xs', e, _, hr⟩ => by
    subst e
    have := hr.length
    simp [Fo.len, this]; omega
/-- A row of the call's own that stands for a forest, as a slice. -/
theorem RepP.slice {w : World} {base n : Nat} {v : Value} {P : Nat → Prop} {f : Fo} {xs : List Value} (ho : w.ownsRow base 28 3 v n xs) (hr : RepP w P f xs) (hl : f.len = n) (hv : ∀ g, v.ownBlock = some g → P g) :
    ∃ x c, v = .slice x f.len c ∧ SlIn w P f x c := by
  rcases ho.2 with ⟨rfl, rfl⟩ | ⟨g, cap, cur, rfl, hb, hh, hle, hm, hs, ht⟩
  · rw [Fo.len_zero hl]
    exact ⟨none, 0, rfl, SlIn.none _ _⟩
  · subst hl
    refine ⟨some ⟨g, 0, none⟩, cap, rfl, hle, hm, (fun h => by cases h), fun _ => ⟨g, 0, rfl, hv g rfl, RepP.foIn hr (fun j u hu => ?_)⟩⟩
    rw [Nat.zero_add]
    rw [ho.cellAt j (by have := (List.getElem?_eq_some_iff.1 hu).1; rw [hr.length] at this; exact this)]
    exact hu
end Go.Proofs.Ytcgeipcffhfclaa
