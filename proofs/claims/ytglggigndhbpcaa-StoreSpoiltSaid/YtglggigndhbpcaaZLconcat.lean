/- The contract of the program's joining of two lists of clauses. Condition: they lie in memory; at most 1000 each. -/
import Derived.Test.YtglggigndhbpcaaZLrows
import Derived.Test.YtglggigndhbpcaaZWpl
import Derived.Lib.AppendZeros
import Derived.LoopN
namespace Go.Proofs.Ytglggigndhbpcaa
open Go.RowKit

/-- What Grow of nothing answers. -/
def GwPost (R : Nat → Prop) (w : World) (e : Ending) (w' : World) : Prop := ∃ x c, e = .returned (.slice x 0 c) ∧ GRow w' R w.heap.size (.slice x 0 c) [] ∧ Below w.heap.size w w'
theorem grow_run (R : Nat → Prop) (n : Nat) (h0 : 0 < n) (h1 : n ≤ 100000) (w : World) (ty : TypeId) : ∃ c w', (Builtin.append_ #[22, 3] ty #[.slice none 0 0, .int .i64 n]).run Try.prog w = .ok (.slice (some ⟨w.heap.size, 0, none⟩) n c) w' ∧ GRow w' R w.heap.size (.slice (some ⟨w.heap.size, 0, none⟩) 0 c) [] ∧ Below w.heap.size w w' ∧ n ≤ c := by
  obtain ⟨i0, hi, hz0, hz1, hz2⟩ := info_parts infoClause
  have hr := Lib.run_append_nil_zeros (P := Try.prog) w 22 3 ty 35 i0 _ .i64 .i64 Try.underlying22 Try.underlying3 hi hz0 n h0 (by omega) (by omega) (by rw [hz2]; omega)
  have hge := grownCap_ge w n 0 35
  have hle := grownCap_le_maxLen w n 0 35 (by unfold maxLen; omega)
  refine ⟨_, _, hr, ⟨[], ⟨by simp, .inr ⟨w.heap.size, _, _, rfl, Nat.le_refl _, heap_new w.drew _, Nat.zero_le _, hle, ?_, by simp⟩⟩, rfl⟩, ((Below.refl w.heap.size w).drew.alloc (Nat.le_refl _) _), hge⟩
  rw [Array.size_append, size_zeroCells, size_zeroCells, ← Nat.add_mul]
  have e : n + (grownCap w n 0 35 - n) = grownCap w n 0 35 := by omega
  rw [e]
  rfl
set_option maxRecDepth 100000 in
set_option maxHeartbeats 1000000 in
theorem sgrow_any (R : Nat → Prop) (n : Nat) (z : Int) (hz : z = (n : Int)) (h1 : n ≤ 100000) (w : World) : Calls Try.prog 51 #[.slice none 0 0, .int .i64 z] w (GwPost R w) := by
  subst hz
  by_cases h0 : n = 0
  · subst h0
    go_enter Try.func51, Try.ntmps51
    go_wp2_with fail
    go_ret
    exact ⟨none, 0, rfl, GRow.nil _ _ _, Below.refl _ _⟩
  · obtain ⟨c, w', hrun, hg, hb, hge⟩ := grow_run R n (by omega) h1 w 22
    have HRUN := Lib.hid hrun
    have HG := Lib.hid hg
    have HB := Lib.hid hb
    clear hrun hg hb
    have hp : (0 : Int) < (n : Int) := by omega
    go_enter Try.func51, Try.ntmps51
    go_wp2_with (at_builtin; refine Lib.wpList_append_run _ (by rfl) _ _ _ _ (by rfl) _ _ (by rfl) (by rfl) _ _ HRUN.out ?_)
    go_ret
    exact ⟨_, _, rfl, HG.out, HB.out⟩
/-- What Concat answers. -/
def CtPost (R : Nat → Prop) (q : List Cl) (n : Nat) (w : World) (e : Ending) (w' : World) : Prop := ∃ x c, e = .returned (.slice x n c) ∧ ClsIn w' (fun b => b < w'.heap.size ∧ (w.heap.size ≤ b ∨ R b)) q x c ∧ Below w.heap.size w w'
/-- Two lists, put behind one another in a row that was made for them. -/
theorem ct_two {R : Nat → Prop} {w w1 : World} {l k : List Cl} {a b x : Option Addr} {ca cb c : Nat} (hin : ClsIn w (fun b => b < w.heap.size ∧ R b) l a ca) (hik : ClsIn w (fun b => b < w.heap.size ∧ R b) k b cb) (hl : l.length ≤ 1000) (hk : k.length ≤ 1000) (hg : GRow w1 R w.heap.size (.slice x 0 c) []) (hb : Below w.heap.size w w1) (ty : TypeId) :
    ∃ x2 c2 W2 x3 c3 W3, Hid ((Builtin.append_ #[22, 22] ty #[.slice x 0 c, .slice a l.length ca]).run Try.prog w1 = .ok (.slice x2 l.length c2) W2) ∧ Below w.heap.size w W2 ∧
      Hid ((Builtin.append_ #[22, 22] ty #[.slice x2 l.length c2, .slice b k.length cb]).run Try.prog W2 = .ok (.slice x3 (l.length + k.length) c3) W3) ∧ Hid (CtPost R (l ++ k) (l.length + k.length) w (.returned (.slice x3 (l.length + k.length) c3)) W3) := by
  have hz := hb.size
  have hlt := hg.lt
  obtain ⟨v2, W2, r2, g2, t2⟩ := hg.add (ms := l) (a := a) (cap := ca) ((hin.keep (fun b hb2 => hb.block b hb2.1)).weak (fun b hb2 => ⟨hb2.2, Nat.lt_of_lt_of_le hb2.1 hz, fun hO => by have := (hlt b hO).1; have := hb2.1; omega⟩)) ty (by simp; omega) (by omega)
  rw [List.nil_append] at g2
  obtain ⟨x2, c2, rfl⟩ := g2.form
  have hb2 : Below w.heap.size w W2 := hb.trans (t2.low hz (fun b hO => (hlt b hO).1))
  have hlt2 := g2.lt
  have hz2 := hb2.size
  obtain ⟨v3, W3, r3, g3, t3⟩ := g2.add (ms := k) (a := b) (cap := cb) ((hik.keep (fun b hb3 => hb2.block b hb3.1)).weak (fun b hb3 => ⟨hb3.2, Nat.lt_of_lt_of_le hb3.1 hz2, fun hO => by have := (hlt2 b hO).1; have := hb3.1; omega⟩)) ty (by omega) (by omega)
  obtain ⟨x3, c3, rfl⟩ := g3.form
  have hb3 : Below w.heap.size w W3 := hb2.trans (t3.low hz2 (fun b hO => (hlt2 b hO).1))
  have hC := GRow.clsQ g3
  rw [List.length_append] at r3
  rw [List.length_append] at g3
  exact ⟨x2, c2, W2, x3, c3, W3, Lib.hid r2, hb2, Lib.hid r3, Lib.hid ⟨x3, c3, rfl, hC, hb3⟩⟩
set_option maxRecDepth 100000 in
set_option maxHeartbeats 4000000 in
theorem sconcat_any (R : Nat → Prop) (l k : List Cl) (a b : Option Addr) (ca cb sb : Nat) (w : World) (hin : ClsIn w (fun b => b < w.heap.size ∧ R b) l a ca) (hik : ClsIn w (fun b => b < w.heap.size ∧ R b) k b cb) (hl : l.length ≤ 1000) (hk : k.length ≤ 1000) (h0 : w.cell? ⟨sb, 0, none⟩ = some (.slice a l.length ca)) (h1 : w.cell? ⟨sb, 1, none⟩ = some (.slice b k.length cb)) (hs : sb < w.heap.size) :
    Calls Try.prog 34 #[.slice (some ⟨sb, 0, none⟩) 2 2] w (CtPost R (l ++ k) (l.length + k.length) w) := by
  have CG := Lib.hid (sgrow_any R (l.length + k.length) ((l.length : Int) + (k.length : Int)) (by omega) (by omega) w)
  have CT := Lib.hid (fun (w1 : World) (x : Option Addr) (c : Nat) (hg : GRow w1 R w.heap.size (.slice x 0 c) []) (hb : Below w.heap.size w w1) => ct_two hin hik hl hk hg hb 22)
  have hs2 := Lib.hid hs
  have h0' := Lib.hid h0
  have h1' := Lib.hid h1
  clear hin hik hs
  go_enter Try.func34, Try.ntmps34
  go_wp2_with fail
  refine wp_loop_rounds 3 ?_
  rw [rounds_succ]
  go_wp2_with fail
  rw [rounds_succ]
  go_wp2_with fail
  rw [rounds_succ]
  go_wp2_with fail
  refine CG.out.mono ?_
  rintro e w1 ⟨x, c, rfl, hg, hb⟩
  obtain ⟨x2, c2, W2, x3, c3, W3, HR2, hb2, HR3, HE⟩ := CT.out w1 x c hg hb
  have e0 := (bcell hb sb 0 hs2.out).trans h0'.out
  have e1 := (bcell hb2 sb 1 hs2.out).trans h1'.out
  clear CG CT hg hb hb2 h0 h1
  go_wp2_with fail
  refine wp_loop_rounds 3 ?_
  rw [rounds_succ]
  go_wp2_with (at_builtin; refine wpList_append_run (by rfl) _ _ _ (by rfl) (by rfl) (by rfl) HR2.out ?_)
  rw [rounds_succ]
  go_wp2_with (at_builtin; refine wpList_append_run (by rfl) _ _ _ (by rfl) (by rfl) (by rfl) HR3.out ?_)
  rw [rounds_succ]
  go_wp2_with fail
  go_ret
  exact HE.out
theorem sconcat_at {R : Nat → Prop} {V : World} {l k : List Cl} {a b : Option Addr} {ca cb n : Nat} (hin : ClsIn V (fun b => b < V.heap.size ∧ R b) l a ca) (hik : ClsIn V (fun b => b < V.heap.size ∧ R b) k b cb) (hl : l.length ≤ 1000) (hk : k.length ≤ 1000) (hn : k.length = n) :
    Calls Try.prog 34 #[.slice (some ⟨V.heap.size, 0, none⟩) 2 2] (V.alloc (.cells #[.slice a l.length ca, .slice b n cb] 22)) (CtPost R (l ++ k) (l.length + n) (V.alloc (.cells #[.slice a l.length ca, .slice b n cb] 22))) := by
  subst hn
  have hnw := heap_new V (.cells #[.slice a l.length ca, .slice b k.length cb] 22)
  exact sconcat_any R l k a b ca cb V.heap.size _ ((hin.keep (fun b hb => heap_old _ _ hb.1)).weak (fun b hb => ⟨by have := hb.1; simp; omega, hb.2⟩)) ((hik.keep (fun b hb => heap_old _ _ hb.1)).weak (fun b hb => ⟨by have := hb.1; simp; omega, hb.2⟩)) hl hk (cell_at hnw 0) (cell_at hnw 1) (lt_of_block hnw)
end Go.Proofs.Ytglggigndhbpcaa
