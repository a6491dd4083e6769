/- The contracts of the copies of an arena: new memory of the call's own that holds the same nodes; the program's and the document's own. No condition but that the nodes lie in memory, and are no more than 100000. -/
import Derived.Test.YtmbopdlmkbbbiaaAidx
import Derived.Test.YtmbopdlmkbbbiaaWpl
import Derived.Lib.SliceRun
namespace Go.Proofs.Ytmbopdlmkbbbiaa
open Go.RowKit

theorem run_eql_nodes (a : Option Addr) (n c : Nat) (w : World) : (binOp .eql 24 (.slice a n c) (.slice none 0 0)).run Try.prog w = .ok (.bool a.isNone) w := Lib.run_eql_slice_nil w _ _ a n c 0 0 Try.underlying24
/-- A copy: a row of the call's own. -/
def ClPost (ns : List Nd) (w : World) (e : Ending) (w' : World) : Prop := ∃ x c, e = .returned (.slice x ns.length c) ∧ NOwn w' w.heap.size (.slice x ns.length c) ns ∧ Below w.heap.size w w'
def CpPost (ns : List Nd) (w : World) (e : Ending) (w' : World) : Prop := ∃ x c, e = .returned (.agg #[.slice x ns.length c]) ∧ NOwn w' w.heap.size (.slice x ns.length c) ns ∧ Below w.heap.size w w'
theorem NOwn.form {w : World} {base : Nat} {v : Value} {ns : List Nd} (h : NOwn w base v ns) : ∃ x c, v = .slice x ns.length c := by
  rcases h.2 with ⟨rfl, h0⟩ | ⟨g, cap, cur, rfl, _⟩
  · exact ⟨none, 0, by rw [h0]⟩
  · exact ⟨_, _, rfl⟩
theorem NOwn.nil (w : World) (base : Nat) : NOwn w base (.slice none 0 0) [] := World.ownsRow_nil w base _ _
theorem NOwn.empty (w : World) : NOwn (w.alloc (.cells #[] 41)) w.heap.size (.slice (some ⟨w.heap.size, 0, none⟩) 0 0) [] := World.ownsRow_made w #[] 0 (Nat.le_refl _) (Nat.zero_le _) rfl
theorem NOwn.low {w : World} {base base' : Nat} {v : Value} {ns : List Nd} (h : NOwn w base v ns) (hb : base' ≤ base) : NOwn w base' v ns := by
  refine ⟨h.1, ?_⟩
  rcases h.2 with h | ⟨g, cap, cur, h1, h2, h3⟩
  · exact .inl h
  · exact .inr ⟨g, cap, cur, h1, by omega, h3⟩
theorem NOwn.setLow {w : World} {base : Nat} {v : Value} {ns : List Nd} (h : NOwn w base v ns) {b : Nat} (hb : b < base) (i : Nat) (u : Value) : NOwn (w.setCell ⟨b, i, none⟩ u) base v ns :=
  h.kept (Only.set w b i u) (by
    cases hv : v.ownBlock with
    | none => exact .inl rfl
    | some g => exact .inr (fun e => by have := (h.lt g hv).1; injection e; omega))
/-- The nodes of a slice behind a row of the call's own. -/
theorem NOwn.appendIn {w : World} {base B : Nat} {v : Value} {ns ms : List Nd} {a : Option Addr} {cap : Nat} (h : NOwn w base v ns) (hin : NsIn w (· < B) ms a cap) (ty : TypeId) (hsz : ns.length + ms.length ≤ 10000000) (hbase : base ≤ w.heap.size) :
    ∃ v' w', (Builtin.append_ #[24, 24] ty #[v, .slice a ms.length cap]).run Try.prog w = .ok v' w' ∧ NOwn w' base v' (ns ++ ms) ∧ w.grownBy w' v.ownBlock ∧ (v'.ownBlock = v.ownBlock ∨ v'.ownBlock = some w.heap.size) := by
  cases a with
  | none =>
    have hc : cap = 0 := hin.2.2.1 rfl
    have hl : ms.length = 0 := by have := hin.1; omega
    have hk := List.eq_nil_of_length_eq_zero hl
    subst hk hc
    refine ⟨v, w, ?_, by rw [List.append_nil]; exact h, ⟨rfl, rfl, rfl, Nat.le_refl _, fun _ _ _ => rfl⟩, .inl rfl⟩
    obtain ⟨i0, hi, hz0, hz1, hz2⟩ := info_parts infoNode
    rcases h.2 with ⟨rfl, hn⟩ | ⟨g, cap, cur, rfl, _, _, hle, _⟩
    · simp [Builtin.append_, run_underlying Try.underlying24, sizeOf, typeInfo, hi, Builtin.lenOf, Builtin.firstCells]
    · simp [Builtin.append_, run_underlying Try.underlying24, sizeOf, typeInfo, hi, Builtin.lenOf, Builtin.firstCells, hle, storeCells]
  | some x =>
    refine h.append ty (x := x) (c := cap) ?_ hsz hbase
    intro j u hu
    rcases Nat.eq_zero_or_pos ms.length with h0 | h0
    · rw [List.eq_nil_of_length_eq_zero h0] at hu
      simp [ncs] at hu
    · obtain ⟨b, o, e, _, hat⟩ := hin.2.2.2 h0
      cases e
      rw [add_none]
      exact hat.cells j u hu

set_option maxRecDepth 100000 in
set_option maxHeartbeats 1000000 in
theorem nclone_any (ns : List Nd) (a : Option Addr) (cap B : Nat) (w : World) (hin : NsIn w (· < B) ns a cap) (hB : B ≤ w.heap.size) (hn : ns.length ≤ 100000) : Calls Try.prog 33 #[.slice a ns.length cap] w (ClPost ns w) := by
  cases a with
  | none =>
    have hc : cap = 0 := hin.2.2.1 rfl
    have hl : ns.length = 0 := by have := hin.1; omega
    have hk := List.eq_nil_of_length_eq_zero hl
    subst hk hc
    have HE : Hid (ClPost [] w (.returned (.slice none 0 0)) w) := Lib.hid ⟨_, _, rfl, NOwn.nil _ _, Below.refl _ _⟩
    show Calls Try.prog 33 #[.slice none 0 0] w _
    have heq := run_eql_nodes none 0 0
    simp only [Option.isNone] at heq
    go_enter Try.func33, Try.ntmps33
    go_wp2_with fail
    go_ret
    exact HE.out
  | some x =>
    have hb1 : Below w.heap.size w (w.alloc (.cells #[] 41)) := (Below.refl _ _).alloc (Nat.le_refl _) _
    obtain ⟨v', w', hrun, h1, h2, h3⟩ := (NOwn.empty w).appendIn (hin.below (hb1.mono hB)) 24 (by simp; omega) (by simp)
    obtain ⟨x', c', rfl⟩ := h1.form
    have HRUN := Lib.hid hrun
    have HE : Hid (ClPost ns w (.returned (.slice x' ns.length c')) w') := Lib.hid ⟨x', c', rfl, h1, h2.os, h2.tape, h2.output, by have := h2.size; simp at this; omega, fun b hb => (h2.block b (by simp; omega) (fun e => by simp [Value.ownBlock] at e; omega)).trans (heap_old _ _ hb)⟩
    clear hrun h1 h2 h3
    have heq := run_eql_nodes (some x) ns.length cap
    simp only [Option.isNone] at heq
    go_enter Try.func33, Try.ntmps33
    go_wp2_with (at_builtin; refine wpList_append_run (by rfl) _ _ _ (by rfl) (by rfl) (by rfl) HRUN.out ?_)
    go_ret
    exact HE.out
set_option maxRecDepth 100000 in
set_option maxHeartbeats 1000000 in
theorem acopied_any (ns : List Nd) (a : Option Addr) (cap B : Nat) (w : World) (hin : NsIn w (· < B) ns a cap) (hB : B ≤ w.heap.size) (hn : ns.length ≤ 100000) : Calls Try.prog 32 #[.agg #[.slice a ns.length cap]] w (CpPost ns w) := by
  have hb0 : Below w.heap.size w ((w.alloc (.cells #[.slice a ns.length cap] 26)).alloc (.cells #[.slice none 0 0] 26)) := ((Below.refl _ _).alloc (Nat.le_refl _) _).alloc (by simp) _
  have HI : Hid (NsIn ((w.alloc (.cells #[.slice a ns.length cap] 26)).alloc (.cells #[.slice none 0 0] 26)) (· < B) ns a cap) := Lib.hid (hin.below (hb0.mono hB))
  have HC := Lib.hid (nclone_any ns a cap B _ HI.out (by simp; omega) hn)
  go_enter Try.func32, Try.ntmps32
  go_wp2_with fail
  refine HC.out.mono ?_
  rintro e w1 ⟨x, c, rfl, h1, h2⟩
  have c0 := bcell h2 (w.heap.size + 1) 0 (by simp)
  have f0 := h2.frozen (p := ⟨w.heap.size + 1, 0, none⟩) (by simp)
  simp at c0 f0
  have HE : Hid (CpPost ns w (.returned (.agg #[.slice x ns.length c])) (w1.setCell ⟨w.heap.size + 1, 0, none⟩ (.slice x ns.length c))) := Lib.hid (by
    have hz := h2.size
    simp at hz
    refine ⟨x, c, rfl, (h1.kept (Only.set w1 (w.heap.size + 1) 0 _) ?_).low (by simp; omega), ?_⟩
    · cases hv : (Value.slice x ns.length c).ownBlock with
      | none => exact .inl rfl
      | some g => exact .inr (fun e => by have := (h1.lt g hv).1; simp at this; injection e; omega)
    · exact (Below.trans hb0 (h2.mono (by simp; omega))).setCell (by simp) _)
  clear h1 h2
  go_wp2_with fail
  refine bodyPost_ret (v := .agg #[.slice x ns.length c]) (by simp [results, Try.results32, go_sem, c0]) rfl ?_
  exact HE.out
set_option maxRecDepth 100000 in
set_option maxHeartbeats 1000000 in
theorem r4own_any (ns : List Nd) (a : Option Addr) (cap B : Nat) (w : World) (hin : NsIn w (· < B) ns a cap) (hB : B ≤ w.heap.size) (hn : ns.length ≤ 100000) : Calls Try.prog 48 #[.agg #[.slice a ns.length cap]] w (CpPost ns w) := by
  have hb0 : Below w.heap.size w ((w.alloc (.cells #[.slice a ns.length cap] 26)).alloc (.cells #[.slice none 0 0] 26)) := ((Below.refl _ _).alloc (Nat.le_refl _) _).alloc (by simp) _
  have hI := hin.below (hb0.mono hB)
  have hz0 : ((w.alloc (.cells #[.slice a ns.length cap] 26)).alloc (.cells #[.slice none 0 0] 26)).heap.size = w.heap.size + 1 + 1 := by simp
  obtain ⟨v', w', hrun, h1, h2, h3⟩ := (NOwn.nil ((w.alloc (.cells #[.slice a ns.length cap] 26)).alloc (.cells #[.slice none 0 0] 26)) (w.heap.size + 1 + 1)).appendIn hI 24 (by simp; omega) (by rw [hz0]; exact Nat.le_refl _)
  obtain ⟨x, c, rfl⟩ := h1.form
  have HRUN := Lib.hid hrun
  have hbw : Below (w.heap.size + 1 + 1) ((w.alloc (.cells #[.slice a ns.length cap] 26)).alloc (.cells #[.slice none 0 0] 26)) w' := ⟨h2.os, h2.tape, h2.output, h2.size, fun b hb => h2.block b (by rw [hz0]; exact hb) (fun e => by simp [Value.ownBlock] at e)⟩
  have c0 := bcell hbw (w.heap.size + 1) 0 (by simp)
  have f0 := hbw.frozen (p := ⟨w.heap.size + 1, 0, none⟩) (by simp)
  simp at c0 f0
  have HE : Hid (CpPost ns w (.returned (.agg #[.slice x ns.length c])) (w'.setCell ⟨w.heap.size + 1, 0, none⟩ (.slice x ns.length c))) := Lib.hid (by
    rw [List.nil_append] at h1
    refine ⟨x, c, rfl, (NOwn.setLow h1 (by omega) 0 _).low (by omega), ?_⟩
    · exact (Below.trans hb0 (hbw.mono (by omega))).setCell (by simp) _)
  clear hrun h1 h2 h3 hI hbw hz0
  go_enter Try.func48, Try.ntmps48
  go_wp2_with (at_builtin; refine wpList_append_run (by rfl) _ _ _ (by rfl) (by rfl) (by rfl) HRUN.out ?_)
  refine bodyPost_ret (v := .agg #[.slice x ns.length c]) (by simp [results, Try.results48, go_sem, c0]) rfl ?_
  exact HE.out
end Go.Proofs.Ytmbopdlmkbbbiaa
