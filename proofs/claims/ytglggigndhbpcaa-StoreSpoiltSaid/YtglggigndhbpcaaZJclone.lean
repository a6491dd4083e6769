/- A row of numbers behind a row of the call's own; the contract of the program's copy of some numbers. Condition: there is at least one, at most 1000. -/
import Derived.Test.YtglggigndhbpcaaZOwn
import Derived.Test.YtglggigndhbpcaaZWpl
import Derived.Lib.SliceRun
namespace Go.Proofs.Ytglggigndhbpcaa
open Go.RowKit

theorem IOwn.appendIn {w : World} {base : Nat} {P : Nat → Prop} {v : Value} {zs ms : List Int} {a : Option Addr} {cap : Nat} (h : IOwn w base v zs) (hin : IntsIn w P ms a cap) (h1 : 1 ≤ ms.length) (ty : TypeId) (hsz : zs.length + ms.length ≤ 1000000) (hbase : base ≤ w.heap.size) :
    ∃ v' w', (Builtin.append_ #[23, 23] ty #[v, .slice a ms.length cap]).run Try.prog w = .ok v' w' ∧ IOwn w' base v' (zs ++ ms) ∧ w.grownBy w' v.ownBlock ∧ (v'.ownBlock = v.ownBlock ∨ v'.ownBlock = some w.heap.size) := by
  obtain ⟨i0, hi, hz0, hz1, hz2⟩ := info_parts infoInt
  obtain ⟨b, o, rfl, _, hat⟩ := hin.some (by omega)
  have hc : ∀ j u, (ms.map (Value.int .i64))[j]? = some u → w.cell? ((⟨b, o, none⟩ : Addr).add j) = some u := by
    intro j u hj
    have hjl : j < ms.length := by have := (List.getElem?_eq_some_iff.1 hj).1; simpa using this
    rw [List.getElem?_map, List.getElem?_eq_getElem hjl] at hj
    have ha : (⟨b, o, none⟩ : Addr).add j = ⟨b, o + j, none⟩ := by unfold Addr.add; split <;> simp_all
    rw [ha, hat j hjl, ← hj, List.getD_eq_getElem?_getD, List.getElem?_eq_getElem hjl]
    rfl
  have hone : ∀ u ∈ ms.map (Value.int .i64), u.oneCell' = true := by
    intro u hu
    obtain ⟨z, _, rfl⟩ := List.mem_map.1 hu
    rfl
  obtain ⟨v', w', hrun, h2, h3, _, h5⟩ := run_append_own_at (P := Try.prog) w base 23 ty 3 i0 _ 1 8 Try.underlying23 hi hz0 hz1 hz2 rfl (by omega) v zs.length _ h ⟨b, o, none⟩ ms.length cap (ms.map (Value.int .i64)) (by simp) hc hone (by unfold maxLen; omega) (by omega) hbase
  refine ⟨v', w', hrun, ?_, h3, by simpa using h5⟩
  unfold IOwn
  rw [List.length_append, List.map_append]
  exact h2
theorem IOwn.empty (w : World) : IOwn (w.alloc (.cells #[] 3)) w.heap.size (.slice (some ⟨w.heap.size, 0, none⟩) 0 0) [] := World.ownsRow_made w #[] 0 (Nat.le_refl _) (Nat.zero_le _) rfl
/-- What a copy answers. -/
def CopyPost (m : List Int) (w : World) (e : Ending) (w' : World) : Prop := ∃ x c, e = .returned (.slice x m.length c) ∧ IOwn w' w.heap.size (.slice x m.length c) m ∧ Below w.heap.size w w'
theorem run_eql_ints (a : Option Addr) (n c : Nat) (w : World) : (binOp .eql 23 (.slice a n c) (.slice none 0 0)).run Try.prog w = .ok (.bool a.isNone) w := Lib.run_eql_slice_nil w _ _ a n c 0 0 Try.underlying23
set_option maxRecDepth 100000 in
set_option maxHeartbeats 1000000 in
theorem intclone_any (m : List Int) (a : Option Addr) (cap : Nat) (P : Nat → Prop) (w : World) (h1 : 1 ≤ m.length) (h2 : m.length ≤ 1000) (hin : IntsIn w P m a cap) (hP : ∀ b, P b → b < w.heap.size) : Calls Try.prog 44 #[.slice a m.length cap] w (CopyPost m w) := by
  obtain ⟨b, o, rfl, _, _⟩ := hin.some (by omega)
  have hin2 : IntsIn (w.alloc (.cells #[] 3)) P m (some ⟨b, o, none⟩) cap := hin.keep (fun c hc => heap_old _ _ (hP c hc))
  obtain ⟨v', w', hrun, g1, g2, g3⟩ := (IOwn.empty w).appendIn hin2 h1 23 (by simp; omega) (by simp)
  rw [List.nil_append] at g1
  obtain ⟨x', c', rfl⟩ := g1.form
  have HRUN := Lib.hid hrun
  have HE : Hid (CopyPost m w (.returned (.slice x' m.length c')) w') := Lib.hid ⟨x', c', rfl, g1, g2.os, g2.tape, g2.output, by have := g2.size; simp at this; omega, fun b hb => (g2.block b (by simp; omega) (fun e => by simp [Value.ownBlock] at e; omega)).trans (heap_old _ _ hb)⟩
  clear hrun g1 g2 g3 hin2 hin
  have heq := run_eql_ints (some ⟨b, o, none⟩) m.length cap
  simp only [Option.isNone] at heq
  go_enter Try.func44, Try.ntmps44
  go_wp2_with (at_builtin; refine wpList_append_run (by rfl) _ _ _ (by rfl) (by rfl) (by rfl) HRUN.out ?_)
  go_ret
  exact HE.out
end Go.Proofs.Ytglggigndhbpcaa
