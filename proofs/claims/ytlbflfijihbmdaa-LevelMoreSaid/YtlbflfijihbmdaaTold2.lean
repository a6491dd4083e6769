/- Of any two levels in memory, and any values, told returns true: the program and the document's own answer tell the same. -/
import Derived.Test.YtlbflfijihbmdaaEval
import Derived.Test.YtlbflfijihbmdaaREval
import Derived.Test.YtlbflfijihbmdaaSame
import Derived.Test.YtlbflfijihbmdaaRSame
namespace Go.Proofs.Ytlbflfijihbmdaa
open Go.RowKit

theorem evV_form (ps ms : List Int) (k n : Int) (f : Fo) : ∃ x e, evV ps ms k n f = .tuple #[.int .i64 x, .int .i64 e] := by
  unfold evV
  split
  · exact ⟨_, _, rfl⟩
  · exact ⟨_, _, rfl⟩
/-- What the region of the last line holds on to. -/
theorem heldU {wr w' : World} {x y l l' cap cap' : Nat} {k n k' n' : Int} {a a' : Option Addr} (hb : Below wr.heap.size wr w') (hx : x < wr.heap.size) (hy : y < wr.heap.size)
    (c0 : wr.cell? ⟨x, 0, none⟩ = some (.int .i64 k)) (c1 : wr.cell? ⟨x, 1, none⟩ = some (.int .i64 n)) (c2 : wr.cell? ⟨x, 2, none⟩ = some (.slice a l cap))
    (d0 : wr.cell? ⟨y, 0, none⟩ = some (.int .i64 k')) (d1 : wr.cell? ⟨y, 1, none⟩ = some (.int .i64 n')) (d2 : wr.cell? ⟨y, 2, none⟩ = some (.slice a' l' cap')) :
    Hid (Below wr.heap.size wr w') ∧ w'.cell? ⟨x, 0, none⟩ = some (.int .i64 k) ∧ w'.cell? ⟨x, 1, none⟩ = some (.int .i64 n) ∧ w'.cell? ⟨x, 2, none⟩ = some (.slice a l cap) ∧
      w'.cell? ⟨y, 0, none⟩ = some (.int .i64 k') ∧ w'.cell? ⟨y, 1, none⟩ = some (.int .i64 n') ∧ w'.cell? ⟨y, 2, none⟩ = some (.slice a' l' cap') :=
  ⟨Lib.hid hb, (bcell hb _ _ hx).trans c0, (bcell hb _ _ hx).trans c1, (bcell hb _ _ hx).trans c2, (bcell hb _ _ hy).trans d0, (bcell hb _ _ hy).trans d1, (bcell hb _ _ hy).trans d2⟩

set_option maxRecDepth 100000 in
set_option maxHeartbeats 8000000 in
theorem told_any (f g : Fo) (k n k' n' : Int) (ps ms : List Int) (a a' ap am : Option Addr) (cap cap' cp cm B : Nat) (w : World) (hsl : SlIn w (· < B) f a cap) (hsl' : SlIn w (· < B) g a' cap') (hip : IntsIn w (· < B) ps ap cp) (him : IntsIn w (· < B) ms am cm)
    (hB : B ≤ w.heap.size) (hf : f.size ≤ 1000000) (hg : g.size ≤ 1000000) :
    Calls Try.prog 11 #[.agg #[.int .i64 k, .int .i64 n, .slice a f.len cap], .agg #[.int .i64 k', .int .i64 n', .slice a' g.len cap'], .slice ap ps.length cp, .slice am ms.length cm] w fun e w' => e = .returned (.bool true) ∧ Below w.heap.size w w' := by
  have hbx : Below w.heap.size w ((w.alloc (.cells #[.int .i64 k, .int .i64 n, .slice a f.len cap] 24)).alloc (.cells #[.int .i64 k', .int .i64 n', .slice a' g.len cap'] 24)) := ((Below.refl _ _).alloc (Nat.le_refl _) _).alloc (by simp) _
  have hl1 := hip.len
  have hl2 := him.len
  have CE := Lib.hid (fun W h1 h2 h3 h4 => Eval_any ps ms k n f a ap am cap cp cm B W h1 h2 h3 h4)
  have CR := Lib.hid (fun W h1 h2 h3 h4 => rEval_any ps ms k n f a ap am cap cp cm B W h1 h2 h3 h4)
  obtain ⟨x, e0, hev⟩ := evV_form ps ms k n f
  rw [hev] at CE CR
  clear hev
  have C1 := Lib.hid (fun W h1 h2 => Right_any ps.length ms.length k n f a cap B W h1 h2)
  have C2 := Lib.hid (fun W h1 h2 => rRight_any ps.length ms.length k n f a cap B W h1 h2)
  generalize rightB ps.length ms.length k n f = v at C1 C2
  have C3 := Lib.hid (fun W h1 h2 h3 => Same_any f g k n k' n' a a' cap cap' B W h1 h2 h3 hf hg)
  have C4 := Lib.hid (fun W h1 h2 h3 => rSame_any (f.size + 1) f g (Nat.lt_succ_self _) k n k' n' a a' cap cap' B W h1 h2 h3)
  generalize decide (k = k' ∧ n = n' ∧ f = g) = u at C3 C4
  have dx : (x == x) = true := by simp
  have de : (e0 == e0) = true := by simp
  have hbB := hbx.mono hB
  go_enter Try.func11, Try.ntmps11
  go_wp2_with fail
  refine (CE.out _ (hsl.below hbB) (hip.below hbB) (him.below hbB) (Nat.le_trans hB hbx.size)).mono ?_
  rintro e w1 ⟨rfl, hb1⟩
  have hb1' : Below (w.heap.size + 2) ((w.alloc (.cells #[.int .i64 k, .int .i64 n, .slice a f.len cap] 24)).alloc (.cells #[.int .i64 k', .int .i64 n', .slice a' g.len cap'] 24)) w1 := by simpa using hb1
  have c0 := bcell hb1' w.heap.size 0 (by omega)
  have c1 := bcell hb1' w.heap.size 1 (by omega)
  have c2 := bcell hb1' w.heap.size 2 (by omega)
  simp at c0 c1 c2
  have hw1 : Below B w w1 := hbB.trans (hb1'.mono (by omega))
  clear hb1
  go_wp2_with fail
  refine (CR.out _ (hsl.below hw1) (hip.below hw1) (him.below hw1) (Nat.le_trans hB hw1.size)).mono ?_
  rintro e w2 ⟨rfl, hb2⟩
  have hb2' : Below (w.heap.size + 2) ((w.alloc (.cells #[.int .i64 k, .int .i64 n, .slice a f.len cap] 24)).alloc (.cells #[.int .i64 k', .int .i64 n', .slice a' g.len cap'] 24)) w2 := Below.step hb1' hb2 (by simp)
  clear c0 c1 c2
  have c0 := bcell hb2' w.heap.size 0 (by omega)
  have c1 := bcell hb2' w.heap.size 1 (by omega)
  have c2 := bcell hb2' w.heap.size 2 (by omega)
  have d0 := bcell hb2' (w.heap.size + 1) 0 (by omega)
  have d1 := bcell hb2' (w.heap.size + 1) 1 (by omega)
  have d2 := bcell hb2' (w.heap.size + 1) 2 (by omega)
  simp at c0 c1 c2 d0 d1 d2
  have hw2 : Below B w w2 := Below.step hw1 hb2 hB
  have hE := Lib.hid (hbx.trans (hb2'.mono (by omega)))
  have hz := Lib.hid (show w.heap.size + 2 ≤ w2.heap.size by have := hb2'.size; simpa using this)
  have hz1 : w.heap.size < w2.heap.size := by have := hz.out; omega
  have hz2 : w.heap.size + 1 < w2.heap.size := by have := hz.out; omega
  have hB2 : B ≤ w2.heap.size := by omega
  have s1 := hsl.below hw2
  have s2 := hsl'.below hw2
  clear hb1' hb2' hb2
  go_wp2_with fail
  go_region_held3 (fun w' => Hid (Below w2.heap.size w2 w') ∧ w'.cell? ⟨w.heap.size, 0, none⟩ = some (.int .i64 k) ∧ w'.cell? ⟨w.heap.size, 1, none⟩ = some (.int .i64 n) ∧ w'.cell? ⟨w.heap.size, 2, none⟩ = some (.slice a f.len cap) ∧
      w'.cell? ⟨w.heap.size + 1, 0, none⟩ = some (.int .i64 k') ∧ w'.cell? ⟨w.heap.size + 1, 1, none⟩ = some (.int .i64 n') ∧ w'.cell? ⟨w.heap.size + 1, 2, none⟩ = some (.slice a' g.len cap'))
    (first | exact ⟨Lib.hid (Below.refl _ _).drew, c0, c1, c2, d0, d1, d2⟩ | (go_split_ands; exact heldU (Below.step (Hid.out (by assumption)) hbN (Nat.le_refl _)) hz1 hz2 c0 c1 c2 d0 d1 d2))
    (first | (go_at_call 12; go_split_ands; refine (C1.out _ (by exact s1.below (Below.mono (Hid.out (by assumption)) hB2)) (by exact Nat.le_trans hB2 (Below.size (Hid.out (by assumption))))).mono ?_; rintro e wN ⟨rfl, hbN⟩) | (go_at_call 13; go_split_ands; refine (C2.out _ (by exact s1.below (Below.mono (Hid.out (by assumption)) hB2)) (by exact Nat.le_trans hB2 (Below.size (Hid.out (by assumption))))).mono ?_; rintro e wN ⟨rfl, hbN⟩) | (go_at_call 18; go_split_ands; refine (C3.out _ (by exact s1.below (Below.mono (Hid.out (by assumption)) hB2)) (by exact s2.below (Below.mono (Hid.out (by assumption)) hB2)) (by exact Nat.le_trans hB2 (Below.size (Hid.out (by assumption))))).mono ?_; rintro e wN ⟨rfl, hbN⟩) | (go_at_call 14; go_split_ands; refine (C4.out _ (by exact s1.below (Below.mono (Hid.out (by assumption)) hB2)) (by exact s2.below (Below.mono (Hid.out (by assumption)) hB2)) (by exact Nat.le_trans hB2 (Below.size (Hid.out (by assumption))))).mono ?_; rintro e wN ⟨rfl, hbN⟩))
  all_goals go_split_ands
  all_goals have hEE := Lib.hid (Below.step hE.out (Hid.out (by assumption : Hid (Below w2.heap.size w2 wN))) (Nat.le_refl _))
  all_goals go_wp2_with fail
  all_goals go_ret
  all_goals exact ⟨rfl, hEE.out⟩
end Go.Proofs.Ytlbflfijihbmdaa
