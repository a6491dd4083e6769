/- Whole arrays of sixteen numbers out of memory and into it, operation by operation, within a range over a function. No condition but those that stand in each statement. -/
import Derived.Test.YtglggigndhbpcaaZJmem
import Derived.LoopIn
import Derived.TacticsInMore
import Derived.Deep.WholeRow
import Derived.OwnWalkIn
namespace Go.Proofs.Ytglggigndhbpcaa
open Go.RowKit

theorem infoVals : (Try.prog.info? 97).map (·.size) = some 16 := by kernel_rfl
theorem arrI_one (f : Nat → Int) : (arrI f).all (·.oneCell') = true := by simp [arrI, Value.oneCell']
theorem loadVar_arr {w : World} {b : Nat} {f : Nat → Int} {t : TypeId} (hc : w.heap[b]? = some (.cells (arrI f) t (0, 0))) : (loadVar 97 ⟨b, 0, none⟩).run Try.prog w = .ok (.agg (arrI f)) w :=
  run_loadVar_row w b t 97 (arrI f) (0, 0) _ hc undVals rfl infoVals
theorem storeVar_arr {w : World} {b : Nat} {f g : Nat → Int} {t : TypeId} (hc : w.heap[b]? = some (.cells (arrI f) t (0, 0))) : (storeVar 97 ⟨b, 0, none⟩ (.agg (arrI g))).run Try.prog w = .ok () (w.setRow b (arrI g)) :=
  run_storeVar_row w b t 97 (arrI f) (arrI g) hc infoVals rfl (arrI_one g)
theorem storeVar_new {w : World} {g : Nat → Int} {c : Array Value} {t : TypeId} (hs : c.size = 16) : (storeVar 97 ⟨w.heap.size, 0, none⟩ (.agg (arrI g))).run Try.prog (w.alloc (.cells c t)) = .ok () (w.alloc (.cells (arrI g) t)) := by
  rw [run_storeVar_row _ _ t 97 c (arrI g) (heap_alloc_last w _) infoVals hs (arrI_one g), World.setRow_alloc_new]
/-- A whole array set. -/
theorem rowA_same {w : World} {b : Nat} {f g : Nat → Int} {t : TypeId} (hc : w.heap[b]? = some (.cells (arrI f) t (0, 0))) : (w.setRow b (arrI g)).heap[b]? = some (.cells (arrI g) t (0, 0)) := setRow_heap w b (arrI f) (arrI g) t (0, 0) hc
theorem rowA_grown (w : World) (b : Nat) (c : Array Value) : w.grownBy (w.setRow b c) (some b) := ⟨rfl, rfl, rfl, by simp [World.setRow], fun k _ hk => setRow_other w b k c (fun e => hk (by rw [e]))⟩
section
variable {F : Fence} {n : Nat} {ops : Array Oper} {rest : List Oper} {o : Oper} {a : Act} {w : World} {Q : Exit → Act → World → Prop}
theorem wpListIn_loadA {b : Nat} {f : Nat → Int} {t : TypeId} (hw : Region.wanted o (yielded ops a.tmps) = true) (x : Operand) (ho : o.op = .load 97 x) (hx : a.eval x = .pointer (some ⟨b, 0, none⟩)) (hc : w.heap[b]? = some (.cells (arrI f) t (0, 0)))
    (h : wpListIn F n Try.prog ops Q rest (a.put o.dst (.agg (arrI f))) w) : wpListIn F n Try.prog ops Q (o :: rest) a w := by
  refine wpListIn_step fun K hK => ?_
  rw [if_pos hw]
  refine ⟨?_, ?_⟩
  · simp [Oper.about, ho]
  · rw [Oper.semAt_plain F _ _ (by rw [ho]; intro c hc; cases hc)]
    unfold execOp
    simp only [ho, hx, Instr.loadAt, Instr.sureAddr, Sem.run_bind, Sem.run_pure, Result.andThen_ok, loadVar_arr hc]
    exact hK _ _ h
theorem wpListIn_storeA {b : Nat} {f g : Nat → Int} {t : TypeId} (hw : Region.wanted o (yielded ops a.tmps) = true) (x y : Operand) (ho : o.op = .store 97 x y) (hd : o.dst = none) (hx : a.eval x = .pointer (some ⟨b, 0, none⟩)) (hy : a.eval y = .agg (arrI g)) (hc : w.heap[b]? = some (.cells (arrI f) t (0, 0)))
    (h : ∀ w', w'.heap[b]? = some (.cells (arrI g) t (0, 0)) → Hid (w.grownBy w' (some b)) → wpListIn F n Try.prog ops Q rest a w') : wpListIn F n Try.prog ops Q (o :: rest) a w := by
  refine wpListIn_step fun K hK => ?_
  rw [if_pos hw]
  refine ⟨?_, ?_⟩
  · simp [Oper.about, ho]
  · rw [Oper.semAt_plain F _ _ (by rw [ho]; intro c hc; cases hc)]
    unfold execOp
    simp only [ho, hx, hy, Instr.storeAt, Instr.sureAddr, Sem.run_bind, Sem.run_pure, Result.andThen_ok, storeVar_arr hc]
    refine hK (a.put o.dst undef) _ ?_
    rw [hd]
    exact h _ (rowA_same hc) (Lib.hid (rowA_grown w b _))
theorem wpListIn_storeN {b : Nat} {g : Nat → Int} {c : Array Value} {t : TypeId} (hw : Region.wanted o (yielded ops a.tmps) = true) (x y : Operand) (ho : o.op = .store 97 x y) (hd : o.dst = none) (hx : a.eval x = .pointer (some ⟨b, 0, none⟩)) (hy : a.eval y = .agg (arrI g)) (hb : b = w.heap.size) (hs : c.size = 16)
    (h : wpListIn F n Try.prog ops Q rest a (w.alloc (.cells (arrI g) t))) : wpListIn F n Try.prog ops Q (o :: rest) a (w.alloc (.cells c t)) := by
  subst hb
  refine wpListIn_step fun K hK => ?_
  rw [if_pos hw]
  refine ⟨?_, ?_⟩
  · simp [Oper.about, ho]
  · rw [Oper.semAt_plain F _ _ (by rw [ho]; intro c hc; cases hc)]
    unfold execOp
    simp only [ho, hx, hy, Instr.storeAt, Instr.sureAddr, Sem.run_bind, Sem.run_pure, Result.andThen_ok, storeVar_new hs]
    refine hK (a.put o.dst undef) _ ?_
    rw [hd]
    exact h
theorem run_guardA (x y : Operand) (f g : Nat → Int) (w : World) : (eqGuard .eql 97 x y (.agg (arrI f)) (.agg (arrI g))).run Try.prog w = .ok () w := run_eqGuard_agg _ _ _ _ _ _ _ (by kernel_rfl)
theorem run_eqlA (f g : Nat → Int) (w : World) : (binOp .eql 97 (.agg (arrI f)) (.agg (arrI g))).run Try.prog w = .ok (.bool (eq16 f g)) w := by
  simp only [binOp, Sem.run_bind, run_equalI, Result.andThen_ok, Sem.run_pure]
theorem wpListIn_eqlA {f g : Nat → Int} {z : TypeId} (hw : Region.wanted o (yielded ops a.tmps) = true) (x y : Operand) (ho : o.op = .binOp .eql 97 x y z) (hx : a.eval x = .agg (arrI f)) (hy : a.eval y = .agg (arrI g))
    (h : wpListIn F n Try.prog ops Q rest (a.put o.dst (.bool (eq16 f g))) w) : wpListIn F n Try.prog ops Q (o :: rest) a w := by
  refine wpListIn_step fun K hK => ?_
  rw [if_pos hw]
  refine ⟨?_, ?_⟩
  · simp [Oper.about, ho]
  · rw [Oper.semAt_plain F _ _ (by rw [ho]; intro c hc; cases hc)]
    unfold execOp
    simp only [ho, hx, hy, Sem.run_bind, Sem.run_pure, Result.andThen_ok, run_guardA, run_eqlA]
    exact hK _ _ h
end
end Go.Proofs.Ytglggigndhbpcaa
