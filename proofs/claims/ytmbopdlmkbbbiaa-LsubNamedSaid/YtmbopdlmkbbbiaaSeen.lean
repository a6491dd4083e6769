/- A set of numbers as a map: what is found in it, and what is laid into it; an append inside a fence, by its run equation. No condition but those that stand in each statement. -/
import Derived.Test.YtmbopdlmkbbbiaaIown
import Derived.MapKept
import Derived.OwnWalkIn
namespace Go.Proofs.Ytmbopdlmkbbbiaa
open Go.RowKit

def entsI : Nat → List Int → List MapEntry
  | _, [] => []
  | i, x :: r => ⟨.int .i64 x, .agg #[], i⟩ :: entsI (i + 1) r
theorem entsI_app : ∀ (i : Nat) (a b : List Int), entsI i (a ++ b) = entsI i a ++ entsI (i + a.length) b
  | i, [], b => by simp [entsI]
  | i, x :: a, b => by simp [entsI, entsI_app (i + 1) a b]; congr 1; omega
def sTab (zs : List Int) : Obj := .map (entsI 0 zs).toArray zs.length
theorem findI (x : Int) : ∀ (zs : List Int) (i j : Nat), ∃ q, Instr.findNow (.int .i64) (.int .i64 x) (entsI j zs) i = some (if x ∈ zs then some (q, .agg #[]) else none)
  | [], i, j => ⟨0, by simp [entsI, Instr.findNow]⟩
  | y :: r, i, j => by
    by_cases h : x = y
    · exact ⟨i, by subst h; simp [entsI, Instr.findNow, Instr.sameNow]⟩
    · obtain ⟨q, hq⟩ := findI x r (i + 1) (j + 1)
      refine ⟨q, ?_⟩
      have hne : (x == y) = false := beq_eq_false_iff_ne.2 h
      simp only [entsI, Instr.findNow, Instr.sameNow, hne, List.mem_cons, h, false_or]
      exact hq
theorem run_checkI (e : Bool) (x : Int) (w : World) : (Instr.checkKey e 10000 3 (.int .i64 x)).run Try.prog w = .ok () w := MapKept.run_checkKey (k := .int .i64 x) Try.underlying3 (by simp [MapKept.IsKey]) e 9999
theorem run_findI (w : World) (x : Int) (zs : List Int) : ∃ q, (Instr.findKey 3 (.int .i64 x) (entsI 0 zs)).run Try.prog w = .ok (if x ∈ zs then some (q, .agg #[]) else none) w := by
  obtain ⟨q, hq⟩ := findI x zs 0 0
  refine ⟨q, ?_⟩
  simp only [Instr.findKey, Sem.run_bind, run_underlying Try.underlying3, Result.andThen_ok, hq, Sem.run_pure]
/-- What is found in the map. -/
theorem run_lookI (W : World) (r : Nat) (zs : List Int) (hb : W.heap[r]? = some (sTab zs)) (x : Int) :
    (Instr.lookup 105 (.map (some r)) (.int .i64 x) true).run Try.prog W = .ok (.tuple #[.agg #[], .bool (decide (x ∈ zs))]) W := by
  have hz : (zeroValue 106).run Try.prog W = .ok (.agg #[]) W := by kernel_rfl
  obtain ⟨q, hq⟩ := run_findI W x zs
  simp only [Instr.lookup, Sem.run_bind, run_underlying Try.underlying105, Result.andThen_ok, sTab] at hb ⊢
  simp only [MapKept.run_getObj_map hb, Result.andThen_ok]
  by_cases h : x ∈ zs
  · simp [h, run_checkI, hq, Result.andThen]
  · simp [h, hz, run_checkI, hq, Result.andThen]
/-- The world with another object at a place. -/
def putM (w : World) (r : Nat) (o : Obj) : World := { w with heap := w.heap.setIfInBounds r o }
@[simp] theorem putM_size (w : World) (r : Nat) (o : Obj) : (putM w r o).heap.size = w.heap.size := by simp [putM]
theorem putM_at {w : World} {r : Nat} {o o' : Obj} (h : w.heap[r]? = some o) : (putM w r o').heap[r]? = some o' := (MapKept.heap_set h).1
theorem putM_ne (w : World) {r b : Nat} (o : Obj) (h : b ≠ r) : (putM w r o).heap[b]? = w.heap[b]? := by
  show (w.heap.setIfInBounds r o)[b]? = _
  rw [Array.getElem?_setIfInBounds_ne (Ne.symm h)]
theorem run_updI (W : World) (r : Nat) (zs : List Int) (hb : W.heap[r]? = some (sTab zs)) (x : Int) (hx : x ∉ zs) :
    (Instr.mapUpdate 105 (.map (some r)) (.int .i64 x) (.agg #[])).run Try.prog W = .ok () (putM W r (sTab (zs ++ [x]))) := by
  have e : sTab (zs ++ [x]) = .map ((entsI 0 zs).toArray.push ⟨.int .i64 x, .agg #[], zs.length⟩) (zs.length + 1) := by
    simp [sTab, entsI_app, entsI]
  rw [e]
  obtain ⟨q, hq⟩ := run_findI W x zs
  unfold sTab at hb
  simp only [Instr.mapUpdate, Sem.run_bind, run_underlying Try.underlying105, Result.andThen_ok, MapKept.run_getObj_map hb, run_checkI, hq, hx, if_false, MapKept.run_setObj_map _ hb]
  rfl
theorem wpListIn_append_run {F : Fence} {n : Nat} {P : Program} {ops : Array Oper} {rest : List Oper} {o : Oper} {a : Act} {w w' : World} {Q : Exit → Act → World → Prop} {v y v' : Value} (hgd : o.guard = none) (s x : Operand) (t : TypeId)
    (ho : o.op = .call { callee := .builtin .append, args := #[s, x], argTypes := #[t, t] }) (hs : a.eval s = v) (hx : a.eval x = y) (hrun : (Builtin.append_ #[t, t] o.type #[v, y]).run P w = .ok v' w') (h : wpListIn F n P ops Q rest (a.put o.dst v') w') :
    wpListIn F n P ops Q (o :: rest) a w := by
  refine wpListIn_plain hgd fun K hK => ⟨?_, ?_⟩
  · simp [Oper.about, ho, resolve, Target.leads, Sem.run_pure]
  · rw [Oper.semAt_plain F _ _ (by rw [ho]; intro c hc; cases hc)]
    unfold execOp
    simp only [ho, resolve, invoke, builtin, Sem.run_bind, Sem.run_pure, Result.andThen_ok, List.map_toArray, List.map_cons, List.map_nil, hs, hx, hrun]
    exact hK _ _ h
end Go.Proofs.Ytmbopdlmkbbbiaa
