/- Kinds. No condition but those that stand in each statement. -/
import Derived.MapKept
import Derived.Test.YtnfhpombnbpdcaaGreatZQ1
namespace Go.Proofs.YtnfhpombnbpdcaaGreat
open Go.RowKit
def kRow (kids : Int) (f g : Nat) : Value := .agg #[.int .i64 kids, .func (.func f) #[] #[], .func (.func g) #[] #[]]
def kTab : Array MapEntry := #[⟨.int .i64 1, kRow 0 105 106, 0⟩, ⟨.int .i64 2, kRow 1 105 107, 1⟩, ⟨.int .i64 3, kRow 2 105 108, 2⟩, ⟨.int .i64 4, kRow 2 105 109, 3⟩, ⟨.int .i64 5, kRow 0 110 111, 4⟩, ⟨.int .i64 6, kRow 0 112 113, 5⟩]
theorem run_ins (w : World) (es : Array MapEntry) (clock : Nat) (k : Int) (val : Value) (hf : Instr.findNow (.int .i64) (.int .i64 k) es.toList 0 = some none) :
    (Instr.mapUpdate 133 (.map (some w.heap.size)) (.int .i64 k) val).run Tryz.prog (w.alloc (.map es clock)) = .ok () (w.alloc (.map (es.push { key := .int .i64 k, val := val, born := clock }) (clock + 1))) := by
  have hb := (MapKept.heap_alloc w (.map es clock)).1
  have hc : (Instr.checkKey false 10000 3 (.int .i64 k)).run Tryz.prog (w.alloc (.map es clock)) = .ok () (w.alloc (.map es clock)) := MapKept.run_checkKey (k := .int .i64 k) Tryz.underlying3 (by simp [MapKept.IsKey]) false 9999
  have hs : ∀ o : Obj, ({ (w.alloc (.map es clock)) with heap := (w.alloc (.map es clock)).heap.setIfInBounds w.heap.size o } : World) = w.alloc o := by
    intro o
    have e : (w.alloc (.map es clock)).heap.setIfInBounds w.heap.size o = w.heap.push o := by
      show (w.heap.push (.map es clock)).setIfInBounds w.heap.size o = _
      apply Array.ext_getElem?
      intro i
      rw [Array.getElem?_setIfInBounds, Array.getElem?_push, Array.getElem?_push]
      by_cases hi : w.heap.size = i
      · subst hi; simp
      · rw [if_neg hi, if_neg (Ne.symm hi), if_neg (Ne.symm hi)]
    rw [e]; rfl
  simp only [Instr.mapUpdate, Sem.run_bind, run_underlying Tryz.underlying133, MapKept.run_getObj_map hb, hc, MapKept.run_findKey Tryz.underlying3 hf, MapKept.run_setObj_map _ hb, Result.andThen, hs]
set_option maxRecDepth 100000 in
set_option maxHeartbeats 1000000 in
theorem kinds_any (w : World) : Calls Tryz.prog 97 #[] w fun e w' => e = .returned (.map (some w.heap.size)) ∧ w' = w.alloc (.map kTab 6) := by
  have hmm := @run_makeMap Tryz.prog
  have h1 := fun v => run_ins w #[] 0 1 v rfl
  have h2 := fun v1 v => run_ins w #[⟨.int .i64 1, v1, 0⟩] 1 2 v rfl
  have h3 := fun v1 v2 v => run_ins w #[⟨.int .i64 1, v1, 0⟩, ⟨.int .i64 2, v2, 1⟩] 2 3 v rfl
  have h4 := fun v1 v2 v3 v => run_ins w #[⟨.int .i64 1, v1, 0⟩, ⟨.int .i64 2, v2, 1⟩, ⟨.int .i64 3, v3, 2⟩] 3 4 v rfl
  have h5 := fun v1 v2 v3 v4 v => run_ins w #[⟨.int .i64 1, v1, 0⟩, ⟨.int .i64 2, v2, 1⟩, ⟨.int .i64 3, v3, 2⟩, ⟨.int .i64 4, v4, 3⟩] 4 5 v rfl
  have h6 := fun v1 v2 v3 v4 v5 v => run_ins w #[⟨.int .i64 1, v1, 0⟩, ⟨.int .i64 2, v2, 1⟩, ⟨.int .i64 3, v3, 2⟩, ⟨.int .i64 4, v4, 3⟩, ⟨.int .i64 5, v5, 4⟩] 5 6 v rfl
  go_enter Tryz.func97, Tryz.ntmps97
  go_wp2_with fail
  go_ret
  exact ⟨rfl, rfl⟩
theorem run_look (W : World) (r : Nat) (hb : W.heap[r]? = some (.map kTab 6)) (k : Int) (c : Bool) (x : Nat × Value) (hf : Instr.findNow (.int .i64) (.int .i64 k) kTab.toList 0 = some (some x)) :
    (Instr.lookup 133 (.map (some r)) (.int .i64 k) c).run Tryz.prog W = .ok (if c then .tuple #[x.2, .bool true] else x.2) W := by
  have hc : (Instr.checkKey kTab.isEmpty 10000 3 (.int .i64 k)).run Tryz.prog W = .ok () W := MapKept.run_checkKey (k := .int .i64 k) Tryz.underlying3 (by simp [MapKept.IsKey]) _ 9999
  simp [Instr.lookup, run_underlying Tryz.underlying133, MapKept.run_getObj_map hb, hc, MapKept.run_findKey Tryz.underlying3 hf, Result.andThen]
theorem run_look_no (W : World) (r : Nat) (hb : W.heap[r]? = some (.map kTab 6)) (k : Int) (c : Bool) (hk : k < 1 ∨ 6 < k) :
    (Instr.lookup 133 (.map (some r)) (.int .i64 k) c).run Tryz.prog W = .ok (if c then .tuple #[.agg #[.int .i64 0, .nilFunc, .nilFunc], .bool false] else .agg #[.int .i64 0, .nilFunc, .nilFunc]) W := by
  have hc : (Instr.checkKey kTab.isEmpty 10000 3 (.int .i64 k)).run Tryz.prog W = .ok () W := MapKept.run_checkKey (k := .int .i64 k) Tryz.underlying3 (by simp [MapKept.IsKey]) _ 9999
  have hf : Instr.findNow (.int .i64) (.int .i64 k) kTab.toList 0 = some none := by
    have n1 : (k == 1) = false := beq_eq_false_iff_ne.2 (by omega)
    have n2 : (k == 2) = false := beq_eq_false_iff_ne.2 (by omega)
    have n3 : (k == 3) = false := beq_eq_false_iff_ne.2 (by omega)
    have n4 : (k == 4) = false := beq_eq_false_iff_ne.2 (by omega)
    have n5 : (k == 5) = false := beq_eq_false_iff_ne.2 (by omega)
    have n6 : (k == 6) = false := beq_eq_false_iff_ne.2 (by omega)
    simp [kTab, Instr.findNow, Instr.sameNow, n1, n2, n3, n4, n5, n6]
  simp [Instr.lookup, run_underlying Tryz.underlying133, MapKept.run_getObj_map hb, hc, MapKept.run_findKey Tryz.underlying3 hf, Result.andThen]
end Go.Proofs.YtnfhpombnbpdcaaGreat
