/- The law's own comparison of the two Gets, its sample calls, and its full bytes: they return true; they only make new memory. -/
import Derived.Test.YtcgeipcffhfclaaRget3
import Derived.Test.YtcgeipcffhfclaaLput3
import Derived.Test.YtcgeipcffhfclaaRSame
namespace Go.Proofs.Ytcgeipcffhfclaa
open Go.RowKit

theorem same_true {k n : Int} {F : Fo} : decide (k = k ∧ n = n ∧ F = F) = true := by simp
theorem SlIn.mine {w w' : World} {F : Fo} {x : Option Addr} {c lo : Nat} (h : SlIn w (fun b => lo ≤ b ∧ b < w.heap.size) F x c) (hb : Below w.heap.size w w') : SlIn w' (· < w.heap.size) F x c := (h.weak (fun _ hb => hb.2)).below hb

/-- Same of two copies of one level. -/
theorem rSame_yes (F : Fo) (k n : Int) (a a' : Option Addr) (cap cap' B : Nat) (w : World) (h1 : SlIn w (· < B) F a cap) (h2 : SlIn w (· < B) F a' cap') (hB : B ≤ w.heap.size) :
    Calls Try.prog 17 #[.agg #[.int .i64 k, .int .i64 n, .slice a F.len cap], .agg #[.int .i64 k, .int .i64 n, .slice a' F.len cap']] w fun e w' => e = .returned (.bool true) ∧ Below w.heap.size w w' := by
  have := rSame_any (F.size + 1) F F (Nat.lt_succ_self _) k n k n a a' cap cap' B w h1 h2 hB
  rwa [same_true] at this
/-- A level that was boxed, and what lay there ahead of it, in a later world with one block more. -/
theorem SlIn.two {w1 w2 : World} {o o2 : Obj} {F : Fo} {x : Option Addr} {c lo : Nat} (h : SlIn w1 (fun b => lo ≤ b ∧ b < w1.heap.size) F x c) (hb : Below (w1.alloc o).heap.size (w1.alloc o) w2) : SlIn (w2.alloc o2) (· < w2.heap.size) F x c := by
  have hz := hb.size
  rw [World.size_alloc] at hz
  have h1 : Below w1.heap.size w1 w2 := ((Below.refl _ _).alloc (Nat.le_refl _) o).trans (hb.mono (by simp))
  exact ((h.mine h1).mono (by omega)).below ((Below.refl _ _).alloc (Nat.le_refl _) o2)

set_option maxRecDepth 100000 in
set_option maxHeartbeats 2000000 in
theorem get3_any (s : ByteArray) (a : Int) (w : World) (hs : s.size ≤ maxLen) : Calls Try.prog 10 #[.string s, .int .i64 a] w fun e w' => e = .returned (.bool true) ∧ Below w.heap.size w w' := by
  have HA := Lib.hid (lGet_ans s a w hs)
  have HB := Lib.hid (fun W => rlGet_ans s a W hs)
  cases hr : ansL s a with
  | no er =>
    rw [hr] at HA HB
    clear hr
    go_enter Try.func10, Try.ntmps10
    go_wp2_with fail
    refine HA.out.mono ?_
    rintro e w1 ⟨hb1, rfl⟩
    go_wp2_with fail
    refine (HB.out _).mono ?_
    rintro e w2 ⟨hb2, rfl⟩
    obtain ⟨c0, c1, c2, hz⟩ := boxed3 hb2
    have HB2 := Lib.hid (Below.step hb1 ((((Below.refl _ _).alloc (Nat.le_refl _) _).trans (hb2.mono (by simp)))) (Nat.le_refl _))
    clear hb2
    go_wp2_with fail
    refine (rSame_yes .nil 0 0 none none 0 0 0 _ (SlIn.none _ _) (SlIn.none _ _) (Nat.zero_le _)).mono ?_
    rintro e w3 ⟨rfl, hb3⟩
    go_wp2_with fail
    go_ret
    exact ⟨rfl, Below.step (HB2.out.alloc (by have := HB2.out.size; omega) _) hb3 (Nat.le_refl _)⟩
  | ok k n F q l =>
    rw [hr] at HA HB
    clear hr
    go_enter Try.func10, Try.ntmps10
    go_wp2_with fail
    refine HA.out.mono ?_
    rintro e w1 ⟨hb1, x1, c1, rfl, hs1⟩
    go_wp2_with fail
    refine (HB.out _).mono ?_
    rintro e w2 ⟨hb2, x2, c2, rfl, hs2⟩
    obtain ⟨y0, y1, y2, hz⟩ := boxed3 hb2
    have HB2 := Lib.hid (Below.step hb1 ((((Below.refl _ _).alloc (Nat.le_refl _) _).trans (hb2.mono (by simp)))) (Nat.le_refl _))
    have HS : Hid (∀ o2, SlIn (w2.alloc o2) (· < w2.heap.size) F x1 c1 ∧ SlIn (w2.alloc o2) (· < w2.heap.size) F x2 c2) := Lib.hid (fun o2 => ⟨hs1.two hb2, hs2.mine ((Below.refl _ _).alloc (Nat.le_refl _) o2)⟩)
    clear hb2 hs1 hs2
    go_wp2_with fail
    refine (rSame_yes F k n x1 x2 c1 c2 w2.heap.size _ (HS.out _).1 (HS.out _).2 (by simp)).mono ?_
    rintro e w3 ⟨rfl, hb3⟩
    go_wp2_with fail
    go_ret
    exact ⟨rfl, Below.step (HB2.out.alloc (by have := HB2.out.size; omega) _) hb3 (Nat.le_refl _)⟩
end Go.Proofs.Ytcgeipcffhfclaa
