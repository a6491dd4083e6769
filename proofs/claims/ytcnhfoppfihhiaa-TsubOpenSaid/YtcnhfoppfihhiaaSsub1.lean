/- The contract of the function that tells what is put in the place of a level. No condition but that the levels lie in memory and that no number is below 0. -/
import Derived.Test.YtcnhfoppfihhiaaSspec
import Derived.Test.YtcnhfoppfihhiaaCell
import Derived.IntWalk
import Derived.Deep.RegionHeld3
namespace Go.Proofs.Ytcnhfoppfihhiaa
open Go.RowKit

/-- The levels that are put in: their slices stand in two variables. -/
def SbAt (w : World) (B bp bq : Nat) (P Q : Fo) : Prop := bp < B ∧ bq < B ∧ (∃ a c, w.cell? ⟨bp, 0, none⟩ = some (.slice a P.len c) ∧ SlIn w (· < B) P a c) ∧ ∃ a c, w.cell? ⟨bq, 0, none⟩ = some (.slice a Q.len c) ∧ SlIn w (· < B) Q a c
theorem SbAt.below {w w' : World} {B bp bq : Nat} {P Q : Fo} (h : SbAt w B bp bq P Q) (hb : Below B w w') : SbAt w' B bp bq P Q := by
  obtain ⟨h1, h2, ⟨a, c, h3, h4⟩, ⟨a', c', h5, h6⟩⟩ := h
  exact ⟨h1, h2, ⟨a, c, (bcell hb _ _ h1).trans h3, h4.below hb⟩, ⟨a', c', (bcell hb _ _ h2).trans h5, h6.below hb⟩⟩
/-- What is answered: the level that is put in, and true; or none, and false. -/
def SvPost (B : Nat) (o : Option Fo) (w : World) (e : Ending) (w' : World) : Prop := Below w.heap.size w w' ∧ match o with
  | none => e = .returned (.tuple #[.agg #[.int .i64 0, .int .i64 0, .slice none 0 0], .bool false])
  | some T => ∃ (k n : Int) (F : Fo) (x : Option Addr) (c : Nat), T = .cons k n F .nil ∧ e = .returned (.tuple #[.agg #[.int .i64 k, .int .i64 n, .slice x F.len c], .bool true]) ∧ SlIn w (· < B) F x c

set_option maxRecDepth 100000 in
set_option maxHeartbeats 4000000 in
theorem sub1_any (P Q : Fo) (B bp bq : Nat) (k n : Int) (hn : 0 ≤ n) (a : Option Addr) (len cap : Nat) (w : World) (hat : SbAt w B bp bq P Q) (hB : B ≤ w.heap.size) :
    Calls Try.prog 63 #[.agg #[.int .i64 k, .int .i64 n, .slice a len cap], .pointer (some ⟨bp, 0, none⟩), .pointer (some ⟨bq, 0, none⟩)] w (SvPost B (sv P Q k n) w) := by
  obtain ⟨hbp, hbq, ⟨ap, cp, p0, hsp⟩, ⟨aq, cq, q0, hsq⟩⟩ := hat
  have hw2 : Below w.heap.size w ((w.alloc (.cells #[.int .i64 k, .int .i64 n, .slice a len cap] 38)).alloc (.cells #[.int .i64 0, .int .i64 0, .slice none 0 0] 38)) := ((Below.refl _ _).alloc (Nat.le_refl _) _).alloc (by simp) _
  have p1 := (bcell hw2 bp 0 (by omega)).trans p0
  have q1 := (bcell hw2 bq 0 (by omega)).trans q0
  have HW := Lib.hid hw2
  have hNone : Hid (SvPost B none w (.returned (.tuple #[.agg #[.int .i64 0, .int .i64 0, .slice none 0 0], .bool false])) ((w.alloc (.cells #[.int .i64 k, .int .i64 n, .slice a len cap] 38)).alloc (.cells #[.int .i64 0, .int .i64 0, .slice none 0 0] 38))) := Lib.hid ⟨hw2, rfl⟩
  have hlp := hsp.len
  have hlq := hsq.len
  by_cases h5 : k = 5
  · subst h5
    by_cases hp : n < P.len
    · obtain ⟨i, rfl⟩ : ∃ i : Nat, n = i := ⟨n.toNat, by omega⟩
      rw [sv_5 hp, Int.toNat_natCast]
      obtain ⟨b, o, k', n', ks, a', cap', rfl, hbB, hg, e0, e1, e2, hs'⟩ := slGet hsp (i := i) (by omega)
      have e0' := (bcell hw2 b (o + i * 3) (by omega)).trans e0
      have e1' := (bcell hw2 b (o + i * 3 + 1) (by omega)).trans e1
      have e2' := (bcell hw2 b (o + i * 3 + 2) (by omega)).trans e2
      have hi0 : (0 : Int) ≤ (i : Int) := by omega
      rw [hg]
      have HS := Lib.hid hs'
      clear hw2 hNone hs' hg hsp hsq e0 e1 e2 p0 q0
      go_enter Try.func63, Try.ntmps63
      go_wp2_with fail
      refine bodyPost_ret (v := .tuple #[.agg #[.int .i64 k', .int .i64 n', .slice a' ks.len cap'], .bool true]) (by simp [results, Try.results63, go_sem]) rfl ?_
      exact ⟨((Below.refl _ _).alloc (Nat.le_refl _) _).alloc (by simp) _, k', n', ks, a', cap', rfl, rfl, HS.out⟩
    · rw [sv_5n hp]
      have d0 : decide (n < (P.len : Int)) = false := by simpa using hp
      clear hw2 hsp hsq p0 q0
      go_enter Try.func63, Try.ntmps63
      go_wp2_with fail
      refine bodyPost_ret (v := .tuple #[.agg #[.int .i64 0, .int .i64 0, .slice none 0 0], .bool false]) (by simp [results, Try.results63, go_sem]) rfl ?_
      exact hNone.out
  · by_cases h6 : k = 6
    · subst h6
      by_cases hp : n < Q.len
      · obtain ⟨i, rfl⟩ : ∃ i : Nat, n = i := ⟨n.toNat, by omega⟩
        rw [sv_6 hp, Int.toNat_natCast]
        obtain ⟨b, o, k', n', ks, a', cap', rfl, hbB, hg, e0, e1, e2, hs'⟩ := slGet hsq (i := i) (by omega)
        have e0' := (bcell hw2 b (o + i * 3) (by omega)).trans e0
        have e1' := (bcell hw2 b (o + i * 3 + 1) (by omega)).trans e1
        have e2' := (bcell hw2 b (o + i * 3 + 2) (by omega)).trans e2
        have hi0 : (0 : Int) ≤ (i : Int) := by omega
        rw [hg]
        have HS := Lib.hid hs'
        clear hw2 hNone hs' hg hsq hsp e0 e1 e2 p0 q0
        go_enter Try.func63, Try.ntmps63
        go_wp2_with fail
        refine bodyPost_ret (v := .tuple #[.agg #[.int .i64 k', .int .i64 n', .slice a' ks.len cap'], .bool true]) (by simp [results, Try.results63, go_sem]) rfl ?_
        exact ⟨((Below.refl _ _).alloc (Nat.le_refl _) _).alloc (by simp) _, k', n', ks, a', cap', rfl, rfl, HS.out⟩
      · rw [sv_6n hp]
        have d0 : decide (n < (Q.len : Int)) = false := by simpa using hp
        clear hw2 hsq hsp p0 q0
        go_enter Try.func63, Try.ntmps63
        go_wp2_with fail
        refine bodyPost_ret (v := .tuple #[.agg #[.int .i64 0, .int .i64 0, .slice none 0 0], .bool false]) (by simp [results, Try.results63, go_sem]) rfl ?_
        exact hNone.out
    · rw [sv_no h5 h6]
      have d5 : (k == 5) = false := beq_eq_false_iff_ne.2 h5
      have d6 : (k == 6) = false := beq_eq_false_iff_ne.2 h6
      clear hw2 hsp hsq p0 q0
      go_enter Try.func63, Try.ntmps63
      go_wp2_with fail
      refine bodyPost_ret (v := .tuple #[.agg #[.int .i64 0, .int .i64 0, .slice none 0 0], .bool false]) (by simp [results, Try.results63, go_sem]) rfl ?_
      exact hNone.out
end Go.Proofs.Ytcnhfoppfihhiaa
