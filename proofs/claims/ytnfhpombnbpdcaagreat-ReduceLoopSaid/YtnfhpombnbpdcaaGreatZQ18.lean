/- Ttab. No condition but those that stand in each statement. -/
import Derived.MapKept
import Derived.LoopTactic
import Derived.WalkKit
import Derived.ProofKit
import Derived.Test.YtnfhpombnbpdcaaGreatZQ17
namespace Go.Proofs.YtnfhpombnbpdcaaGreat
open Go.RowKit
def tRw (f : Nat) (lo hi : Int) (a : Option Addr) (len : Nat) : Value := .agg #[.func (.func f) #[] #[], .int .i64 lo, .int .i64 hi, .slice a len len]
def tAddr (r : Nat) (k : Int) : Option Addr := if k = 4 then some ⟨r + 1, 0, none⟩ else if k = 5 then some ⟨r + 1 + 1, 0, none⟩ else if k = 6 then some ⟨r + 1 + 1 + 1, 0, none⟩ else if k = 7 then some ⟨r + 1 + 1 + 1 + 1, 0, none⟩ else none
def tFn (k : Int) : Nat := if k = 1 then 53 else if k = 3 then 54 else 52
def tTab (r : Nat) : Array MapEntry := #[⟨.int .i64 1, tRw 53 0 0 none 0, 0⟩, ⟨.int .i64 2, tRw 52 1 1 none 0, 1⟩, ⟨.int .i64 3, tRw 54 0 5 none 0, 2⟩, ⟨.int .i64 4, tRw 52 0 0 (some ⟨r + 1, 0, none⟩) 2, 3⟩,
  ⟨.int .i64 5, tRw 52 0 0 (some ⟨r + 1 + 1, 0, none⟩) 2, 4⟩, ⟨.int .i64 6, tRw 52 0 0 (some ⟨r + 1 + 1 + 1, 0, none⟩) 2, 5⟩, ⟨.int .i64 7, tRw 52 0 0 (some ⟨r + 1 + 1 + 1 + 1, 0, none⟩) 3, 6⟩]
structure TabAt (W : World) (r : Nat) : Prop where
  tab : W.heap[r]? = some (.map (tTab r) 7)
  r1 : W.heap[r + 1]? = some (.cells #[.int .i64 0, .int .i64 0] 3 (0, 0))
  r2 : W.heap[r + 1 + 1]? = some (.cells #[.int .i64 0, .int .i64 1] 3 (0, 0))
  r3 : W.heap[r + 1 + 1 + 1]? = some (.cells #[.int .i64 0, .int .i64 1] 3 (0, 0))
  r4 : W.heap[r + 1 + 1 + 1 + 1]? = some (.cells #[.int .i64 0, .int .i64 0, .int .i64 1] 3 (0, 0))
theorem TabAt.lt {W : World} {r : Nat} (h : TabAt W r) : r + 4 < W.heap.size := lt_of_block h.r4
theorem TabAt.turn {W W' : World} {r : Nat} (h : TabAt W r) (hk : ∀ b, r ≤ b → b ≤ r + 4 → W'.heap[b]? = W.heap[b]?) : TabAt W' r :=
  ⟨(hk _ (by omega) (by omega)).trans h.tab, (hk _ (by omega) (by omega)).trans h.r1, (hk _ (by omega) (by omega)).trans h.r2, (hk _ (by omega) (by omega)).trans h.r3, (hk _ (by omega) (by omega)).trans h.r4⟩
theorem TabAt.below {W W' : World} {r B : Nat} (h : TabAt W r) (hb : Below B W W') (hB : r + 4 < B) : TabAt W' r := h.turn (fun b _ h2 => hb.block b (by omega))
theorem TabAt.later {W W' : World} {r : Nat} (h : TabAt W r) (hb : Below W.heap.size W W') : TabAt W' r := h.below hb h.lt
theorem TabAt.drew {W : World} {r : Nat} (h : TabAt W r) : TabAt W.drew r := ⟨h.tab, h.r1, h.r2, h.r3, h.r4⟩
theorem TabAt.alloc {W : World} {r : Nat} (h : TabAt W r) (o : Obj) : TabAt (W.alloc o) r := h.later ((Below.refl _ _).alloc (Nat.le_refl _) o)
def mset (W : World) (r : Nat) (o : Obj) : World := { W with heap := W.heap.setIfInBounds r o }
theorem mset_alloc (W : World) (r : Nat) (o o1 : Obj) (h : r < W.heap.size) : mset (W.alloc o1) r o = (mset W r o).alloc o1 := by
  have e : (W.heap.push o1).setIfInBounds r o = (W.heap.setIfInBounds r o).push o1 := by
    apply Array.ext_getElem?
    intro i
    rw [Array.getElem?_setIfInBounds, Array.getElem?_push, Array.getElem?_push, Array.getElem?_setIfInBounds]
    by_cases hi : r = i
    · subst hi
      rw [if_pos rfl, if_pos rfl, if_pos (by simp; omega), if_pos h, if_neg (by simp; omega)]
    · rw [if_neg hi, if_neg hi, Array.size_setIfInBounds]
  show ({ W with heap := (W.heap.push o1).setIfInBounds r o } : World) = { W with heap := (W.heap.setIfInBounds r o).push o1 }
  rw [e]
theorem mset_new (w : World) (o o1 : Obj) : mset (w.alloc o1) w.heap.size o = w.alloc o := by
  have e : (w.heap.push o1).setIfInBounds w.heap.size o = w.heap.push o := by
    apply Array.ext_getElem?
    intro i
    rw [Array.getElem?_setIfInBounds, Array.getElem?_push, Array.getElem?_push]
    by_cases hi : w.heap.size = i
    · subst hi; simp
    · rw [if_neg hi, if_neg (Ne.symm hi), if_neg (Ne.symm hi)]
  show ({ w with heap := (w.heap.push o1).setIfInBounds w.heap.size o } : World) = { w with heap := w.heap.push o }
  rw [e]
theorem run_tins (W : World) (r : Nat) (es : Array MapEntry) (clock : Nat) (k : Int) (val : Value) (hb : W.heap[r]? = some (.map es clock)) (hf : Instr.findNow (.int .i64) (.int .i64 k) es.toList 0 = some none) :
    (Instr.mapUpdate 77 (.map (some r)) (.int .i64 k) val).run Tryz.prog W = .ok () (mset W r (.map (es.push { key := .int .i64 k, val := val, born := clock }) (clock + 1))) := by
  have hc : (Instr.checkKey false 10000 3 (.int .i64 k)).run Tryz.prog W = .ok () W := MapKept.run_checkKey (k := .int .i64 k) Tryz.underlying3 (by simp [MapKept.IsKey]) false 9999
  simp only [Instr.mapUpdate, Sem.run_bind, run_underlying Tryz.underlying77, MapKept.run_getObj_map hb, hc, MapKept.run_findKey Tryz.underlying3 hf, MapKept.run_setObj_map _ hb, Result.andThen]
  rfl
theorem map_new (w : World) (es : Array MapEntry) (c : Nat) : (w.alloc (.map es c)).heap[w.heap.size]? = some (.map es c) := heap_new w _
theorem five_new (w : World) (m a b c d : Obj) : (((((w.alloc m).alloc a).alloc b).alloc c).alloc d).heap[w.heap.size]? = some m ∧ (((((w.alloc m).alloc a).alloc b).alloc c).alloc d).heap[w.heap.size + 1]? = some a ∧
    (((((w.alloc m).alloc a).alloc b).alloc c).alloc d).heap[w.heap.size + 1 + 1]? = some b ∧ (((((w.alloc m).alloc a).alloc b).alloc c).alloc d).heap[w.heap.size + 1 + 1 + 1]? = some c ∧ (((((w.alloc m).alloc a).alloc b).alloc c).alloc d).heap[w.heap.size + 1 + 1 + 1 + 1]? = some d := by
  have s1 : (w.alloc m).heap.size = w.heap.size + 1 := by simp
  have s2 : ((w.alloc m).alloc a).heap.size = w.heap.size + 1 + 1 := by simp
  have s3 : (((w.alloc m).alloc a).alloc b).heap.size = w.heap.size + 1 + 1 + 1 := by simp
  have s4 : ((((w.alloc m).alloc a).alloc b).alloc c).heap.size = w.heap.size + 1 + 1 + 1 + 1 := by simp
  have n0 := heap_new w m
  have n1 := heap_new (w.alloc m) a
  have n2 := heap_new ((w.alloc m).alloc a) b
  have n3 := heap_new (((w.alloc m).alloc a).alloc b) c
  have n4 := heap_new ((((w.alloc m).alloc a).alloc b).alloc c) d
  rw [s1] at n1
  rw [s2] at n2
  rw [s3] at n3
  rw [s4] at n4
  refine ⟨?_, ?_, ?_, ?_, n4⟩
  · rw [heap_old _ _ (by omega), heap_old _ _ (by omega), heap_old _ _ (by omega), heap_old _ _ (by omega)]; exact n0
  · rw [heap_old _ _ (by omega), heap_old _ _ (by omega), heap_old _ _ (by omega)]; exact n1
  · rw [heap_old _ _ (by omega), heap_old _ _ (by omega)]; exact n2
  · rw [heap_old _ _ (by omega)]; exact n3
set_option maxRecDepth 100000 in
set_option maxHeartbeats 4000000 in
theorem tkinds_any (w : World) : Calls Tryz.prog 34 #[] w fun e w' => e = .returned (.map (some w.heap.size)) ∧ TabAt w' w.heap.size ∧ Below w.heap.size w w' := by
  have hmm := @run_makeMap Tryz.prog
  have i0 : ∀ (es : Array MapEntry) (c : Nat) (k : Int) (v : Value), Instr.findNow (.int .i64) (.int .i64 k) es.toList 0 = some none → (Instr.mapUpdate 77 (.map (some w.heap.size)) (.int .i64 k) v).run Tryz.prog (w.alloc (.map es c)) = .ok () (w.alloc (.map (es.push { key := .int .i64 k, val := v, born := c }) (c + 1))) := fun es c k v hf => by
    rw [run_tins _ _ es c k v (map_new w es c) hf, mset_new]
  have i1 : ∀ (es : Array MapEntry) (c : Nat) (k : Int) (v : Value) (o1 : Obj), Instr.findNow (.int .i64) (.int .i64 k) es.toList 0 = some none → (Instr.mapUpdate 77 (.map (some w.heap.size)) (.int .i64 k) v).run Tryz.prog ((w.alloc (.map es c)).alloc o1) = .ok () ((w.alloc (.map (es.push { key := .int .i64 k, val := v, born := c }) (c + 1))).alloc o1) := fun es c k v o1 hf => by
    rw [run_tins _ _ es c k v ((heap_old _ _ (by simp)).trans (map_new w es c)) hf, mset_alloc _ _ _ _ (by simp), mset_new]
  have i2 : ∀ (es : Array MapEntry) (c : Nat) (k : Int) (v : Value) (o1 o2 : Obj), Instr.findNow (.int .i64) (.int .i64 k) es.toList 0 = some none → (Instr.mapUpdate 77 (.map (some w.heap.size)) (.int .i64 k) v).run Tryz.prog (((w.alloc (.map es c)).alloc o1).alloc o2) = .ok () (((w.alloc (.map (es.push { key := .int .i64 k, val := v, born := c }) (c + 1))).alloc o1).alloc o2) := fun es c k v o1 o2 hf => by
    rw [run_tins _ _ es c k v ((heap_old _ _ (by simp; omega)).trans ((heap_old _ _ (by simp)).trans (map_new w es c))) hf, mset_alloc _ _ _ _ (by simp; omega), mset_alloc _ _ _ _ (by simp), mset_new]
  have i3 : ∀ (es : Array MapEntry) (c : Nat) (k : Int) (v : Value) (o1 o2 o3 : Obj), Instr.findNow (.int .i64) (.int .i64 k) es.toList 0 = some none → (Instr.mapUpdate 77 (.map (some w.heap.size)) (.int .i64 k) v).run Tryz.prog ((((w.alloc (.map es c)).alloc o1).alloc o2).alloc o3) = .ok () ((((w.alloc (.map (es.push { key := .int .i64 k, val := v, born := c }) (c + 1))).alloc o1).alloc o2).alloc o3) := fun es c k v o1 o2 o3 hf => by
    rw [run_tins _ _ es c k v ((heap_old _ _ (by simp; omega)).trans ((heap_old _ _ (by simp; omega)).trans ((heap_old _ _ (by simp)).trans (map_new w es c)))) hf, mset_alloc _ _ _ _ (by simp; omega), mset_alloc _ _ _ _ (by simp; omega), mset_alloc _ _ _ _ (by simp), mset_new]
  have i4 : ∀ (es : Array MapEntry) (c : Nat) (k : Int) (v : Value) (o1 o2 o3 o4 : Obj), Instr.findNow (.int .i64) (.int .i64 k) es.toList 0 = some none → (Instr.mapUpdate 77 (.map (some w.heap.size)) (.int .i64 k) v).run Tryz.prog (((((w.alloc (.map es c)).alloc o1).alloc o2).alloc o3).alloc o4) = .ok () (((((w.alloc (.map (es.push { key := .int .i64 k, val := v, born := c }) (c + 1))).alloc o1).alloc o2).alloc o3).alloc o4) := fun es c k v o1 o2 o3 o4 hf => by
    rw [run_tins _ _ es c k v ((heap_old _ _ (by simp; omega)).trans ((heap_old _ _ (by simp; omega)).trans ((heap_old _ _ (by simp; omega)).trans ((heap_old _ _ (by simp)).trans (map_new w es c))))) hf, mset_alloc _ _ _ _ (by simp; omega), mset_alloc _ _ _ _ (by simp; omega), mset_alloc _ _ _ _ (by simp; omega), mset_alloc _ _ _ _ (by simp), mset_new]
  have h1 := fun v => i0 #[] 0 1 v rfl
  have h2 := fun v1 v => i0 #[⟨.int .i64 1, v1, 0⟩] 1 2 v rfl
  have h3 := fun v1 v2 v => i0 #[⟨.int .i64 1, v1, 0⟩, ⟨.int .i64 2, v2, 1⟩] 2 3 v rfl
  have h4 := fun v1 v2 v3 v o1 => i1 #[⟨.int .i64 1, v1, 0⟩, ⟨.int .i64 2, v2, 1⟩, ⟨.int .i64 3, v3, 2⟩] 3 4 v o1 rfl
  have h5 := fun v1 v2 v3 v4 v o1 o2 => i2 #[⟨.int .i64 1, v1, 0⟩, ⟨.int .i64 2, v2, 1⟩, ⟨.int .i64 3, v3, 2⟩, ⟨.int .i64 4, v4, 3⟩] 4 5 v o1 o2 rfl
  have h6 := fun v1 v2 v3 v4 v5 v o1 o2 o3 => i3 #[⟨.int .i64 1, v1, 0⟩, ⟨.int .i64 2, v2, 1⟩, ⟨.int .i64 3, v3, 2⟩, ⟨.int .i64 4, v4, 3⟩, ⟨.int .i64 5, v5, 4⟩] 5 6 v o1 o2 o3 rfl
  have h7 := fun v1 v2 v3 v4 v5 v6 v o1 o2 o3 o4 => i4 #[⟨.int .i64 1, v1, 0⟩, ⟨.int .i64 2, v2, 1⟩, ⟨.int .i64 3, v3, 2⟩, ⟨.int .i64 4, v4, 3⟩, ⟨.int .i64 5, v5, 4⟩, ⟨.int .i64 6, v6, 5⟩] 6 7 v o1 o2 o3 o4 rfl
  clear i0 i1 i2 i3 i4
  go_enter Tryz.func34, Tryz.ntmps34
  go_wp2_with fail
  go_ret
  refine ⟨rfl, ⟨?_, ?_, ?_, ?_, ?_⟩, ?_⟩
  · exact (five_new w _ _ _ _ _).1
  · exact (five_new w _ _ _ _ _).2.1
  · exact (five_new w _ _ _ _ _).2.2.1
  · exact (five_new w _ _ _ _ _).2.2.2.1
  · exact (five_new w _ _ _ _ _).2.2.2.2
  · exact (((((Below.refl _ _).alloc (Nat.le_refl _) _).alloc (by simp) _).alloc (by simp; omega) _).alloc (by simp; omega) _).alloc (by simp; omega) _
def tRow (r : Nat) (k : Int) : Value := tRw (tFn k) (tlo k) (thi k) (tAddr r k) (tkids k).toNat
theorem tfound (r : Nat) (k : Int) (h1 : 1 ≤ k) (h7 : k ≤ 7) : ∃ i, Instr.findNow (.int .i64) (.int .i64 k) (tTab r).toList 0 = some (some (i, tRow r k)) := by
  have hc : k = 1 ∨ k = 2 ∨ k = 3 ∨ k = 4 ∨ k = 5 ∨ k = 6 ∨ k = 7 := by omega
  rcases hc with rfl | rfl | rfl | rfl | rfl | rfl | rfl
  · exact ⟨0, rfl⟩
  · exact ⟨1, rfl⟩
  · exact ⟨2, rfl⟩
  · exact ⟨3, rfl⟩
  · exact ⟨4, rfl⟩
  · exact ⟨5, rfl⟩
  · exact ⟨6, rfl⟩
theorem run_tlook (W : World) (r : Nat) (hb : TabAt W r) (k : Int) (c : Bool) (h1 : 1 ≤ k) (h7 : k ≤ 7) :
    (Instr.lookup 77 (.map (some r)) (.int .i64 k) c).run Tryz.prog W = .ok (if c then .tuple #[tRow r k, .bool true] else tRow r k) W := by
  have hc : (Instr.checkKey (tTab r).isEmpty 10000 3 (.int .i64 k)).run Tryz.prog W = .ok () W := MapKept.run_checkKey (k := .int .i64 k) Tryz.underlying3 (by simp [MapKept.IsKey]) _ 9999
  obtain ⟨i, hf⟩ := tfound r k h1 h7
  simp [Instr.lookup, run_underlying Tryz.underlying77, MapKept.run_getObj_map hb.tab, hc, MapKept.run_findKey Tryz.underlying3 hf, Result.andThen]
theorem run_tlook_no (W : World) (r : Nat) (hb : TabAt W r) (k : Int) (c : Bool) (hk : k < 1 ∨ 7 < k) :
    (Instr.lookup 77 (.map (some r)) (.int .i64 k) c).run Tryz.prog W = .ok (if c then .tuple #[.agg #[.nilFunc, .int .i64 0, .int .i64 0, .slice none 0 0], .bool false] else .agg #[.nilFunc, .int .i64 0, .int .i64 0, .slice none 0 0]) W := by
  have hc : (Instr.checkKey (tTab r).isEmpty 10000 3 (.int .i64 k)).run Tryz.prog W = .ok () W := MapKept.run_checkKey (k := .int .i64 k) Tryz.underlying3 (by simp [MapKept.IsKey]) _ 9999
  have hf : Instr.findNow (.int .i64) (.int .i64 k) (tTab r).toList 0 = some none := by
    have n1 : (k == 1) = false := beq_eq_false_iff_ne.2 (by omega)
    have n2 : (k == 2) = false := beq_eq_false_iff_ne.2 (by omega)
    have n3 : (k == 3) = false := beq_eq_false_iff_ne.2 (by omega)
    have n4 : (k == 4) = false := beq_eq_false_iff_ne.2 (by omega)
    have n5 : (k == 5) = false := beq_eq_false_iff_ne.2 (by omega)
    have n6 : (k == 6) = false := beq_eq_false_iff_ne.2 (by omega)
    have n7 : (k == 7) = false := beq_eq_false_iff_ne.2 (by omega)
    simp [tTab, Instr.findNow, Instr.sameNow, n1, n2, n3, n4, n5, n6, n7]
  simp [Instr.lookup, run_underlying Tryz.underlying77, MapKept.run_getObj_map hb.tab, hc, MapKept.run_findKey Tryz.underlying3 hf, Result.andThen]
theorem run_tfield3 (g : Nat) (lo hi : Int) (a : Option Addr) (x y : Nat) (W : World) : (Instr.field 100 (.agg #[.func (.func g) #[] #[], .int .i64 lo, .int .i64 hi, .slice a x y]) 3).run Tryz.prog W = .ok (.slice a x y) W := by kernel_rfl
theorem TabAt.own {W : World} {r : Nat} (h : TabAt W r) {k : Int} {i : Nat} (hi : (i : Int) < tkids k) : ∃ b, tAddr r k = some ⟨b, 0, none⟩ ∧ r < b ∧ b ≤ r + 4 ∧ W.cell? ⟨b, i, none⟩ = some (.int .i64 (bindK k i)) := by
  have hk : k = 4 ∨ k = 5 ∨ k = 6 ∨ k = 7 := by
    unfold tkids at hi
    by_cases h1 : k = 4 ∨ k = 5 ∨ k = 6
    · omega
    · rw [if_neg h1] at hi
      by_cases h2 : k = 7
      · omega
      · rw [if_neg h2] at hi
        split at hi <;> omega
  rcases hk with rfl | rfl | rfl | rfl
  · have hc : i = 0 ∨ i = 1 := by simp [tkids] at hi; omega
    refine ⟨r + 1, rfl, by omega, by omega, ?_⟩
    rcases hc with rfl | rfl <;> exact cell_at h.r1 _
  · have hc : i = 0 ∨ i = 1 := by simp [tkids] at hi; omega
    refine ⟨r + 1 + 1, rfl, by omega, by omega, ?_⟩
    rcases hc with rfl | rfl <;> exact cell_at h.r2 _
  · have hc : i = 0 ∨ i = 1 := by simp [tkids] at hi; omega
    refine ⟨r + 1 + 1 + 1, rfl, by omega, by omega, ?_⟩
    rcases hc with rfl | rfl <;> exact cell_at h.r3 _
  · have hc : i = 0 ∨ i = 1 ∨ i = 2 := by simp [tkids] at hi; omega
    refine ⟨r + 1 + 1 + 1 + 1, rfl, by omega, by omega, ?_⟩
    rcases hc with rfl | rfl | rfl <;> exact cell_at h.r4 _
theorem tk1_any (v : Int) (w : World) : Calls Tryz.prog 52 #[.int .i64 v] w fun e w' => e = .returned (.int .i64 1) ∧ w' = w := by
  go_enter Tryz.func52, Tryz.ntmps52
  go_wp2
  go_ret
  exact ⟨rfl, rfl⟩
theorem tk2_any (v : Int) (w : World) : Calls Tryz.prog 53 #[.int .i64 v] w fun e w' => e = .returned (.int .i64 v) ∧ w' = w := by
  go_enter Tryz.func53, Tryz.ntmps53
  go_wp2
  go_ret
  exact ⟨rfl, rfl⟩
theorem tk3_any (v : Int) (w : World) : Calls Tryz.prog 54 #[.int .i64 v] w fun e w' => e = .returned (.int .i64 20) ∧ w' = w := by
  go_enter Tryz.func54, Tryz.ntmps54
  go_wp2
  go_ret
  exact ⟨rfl, rfl⟩
theorem tFn_any (k v : Int) (w : World) : Calls Tryz.prog (tFn k) #[.int .i64 v] w fun e w' => e = .returned (.int .i64 (tlim v k)) ∧ w' = w := by
  unfold tFn tlim
  split
  · exact tk2_any v w
  · split
    · exact tk3_any v w
    · exact tk1_any v w
end Go.Proofs.YtnfhpombnbpdcaaGreat
