/- Fits. No condition but those that stand in each statement. -/
import Derived.Deep.QuietTactic
import Derived.BigQuiet
import Derived.RegionTactic
import Derived.BigRegion
import Derived.ChangeAlike
import Derived.Test.YtnfhpombnbpdcaaGreatZQ3
import Derived.Test.YtnfhpombnbpdcaaGreatZQ4
namespace Go.Proofs.YtnfhpombnbpdcaaGreat
open Go.RowKit
theorem run_store_nilFunc (P : Program) (w : World) (a : Addr) (m : Mode) : (store a .nilFunc m).run P w = stored P w a .nilFunc m := run_store P w a _ m rfl
theorem run_store_func (P : Program) (w : World) (a : Addr) (m : Mode) (f : Fn) (x y : Array Value) : (store a (.func f x y) m).run P w = stored P w a (.func f x y) m := run_store P w a _ m rfl
attribute [local go_sem] run_store_nilFunc run_store_func
theorem quiet_more {P : Program} {f : FuncId} {args : Array Value} {w : World} {a n : Nat} {v : Value}
    (h : Calls P f args (w.drewN (a + n)) fun e w' => e = .returned v ∧ w' = w.drewN (a + n)) :
    Calls P f args (w.drewN (a + n)) fun e w'' => e = .returned v ∧ ∃ m, w'' = w.drewN (a + m) :=
  h.mono fun _ _ ⟨he, hm⟩ => ⟨he, n, hm⟩
set_option maxHeartbeats 400000 in
theorem kf1_any (p m : Int) (w : World) : Calls Tryz.prog 105 #[.int .i64 p, .int .i64 m] w fun e w' => e = .returned (.int .i64 1) ∧ w' = w := by
  go_enter Tryz.func105, Tryz.ntmps105
  go_wp2
  go_ret
  exact ⟨rfl, rfl⟩
set_option maxHeartbeats 400000 in
theorem kf5_any (p m : Int) (w : World) : Calls Tryz.prog 110 #[.int .i64 p, .int .i64 m] w fun e w' => e = .returned (.int .i64 p) ∧ w' = w := by
  go_enter Tryz.func110, Tryz.ntmps110
  go_wp2
  go_ret
  exact ⟨rfl, rfl⟩
set_option maxHeartbeats 400000 in
theorem kf7_any (p m : Int) (w : World) : Calls Tryz.prog 112 #[.int .i64 p, .int .i64 m] w fun e w' => e = .returned (.int .i64 m) ∧ w' = w := by
  go_enter Tryz.func112, Tryz.ntmps112
  go_wp2
  go_ret
  exact ⟨rfl, rfl⟩
set_option maxRecDepth 100000 in
set_option maxHeartbeats 1000000 in
theorem fits_no (k n : Int) (a : Option Addr) (len cap C r : Nat) (w : World) (hk : k < 1 ∨ 6 < k) (hC : C < w.heap.size) (hr : r < w.heap.size) (hm : w.heap[r]? = some (.map kTab 6))
    (c0 : w.cell? ⟨C, 0, none⟩ = some (.map (some r))) :
    Calls Tryz.prog 118 #[.pointer (some ⟨C, 0, none⟩), .agg #[.int .i64 k, .int .i64 n, .slice a len cap]] w fun e w' => e = .returned (.bool false) ∧ Below w.heap.size w w' := by
  have hb1 : (w.alloc (.cells #[.int .i64 k, .int .i64 n, .slice a len cap] 45)).heap[r]? = some (.map kTab 6) := by rw [(MapKept.heap_alloc w _).2 r hr]; exact hm
  have hb2 : ∀ o, ((w.alloc (.cells #[.int .i64 k, .int .i64 n, .slice a len cap] 45)).alloc o).heap[r]? = some (.map kTab 6) := fun o => by rw [(MapKept.heap_alloc _ _).2 r (by simp; omega)]; exact hb1
  have l1 := run_look_no (w.alloc (.cells #[.int .i64 k, .int .i64 n, .slice a len cap] 45)).drew r hb1 k true hk
  have l2 := fun o => run_look_no ((w.alloc (.cells #[.int .i64 k, .int .i64 n, .slice a len cap] 45)).alloc o).drew r (hb2 o) k true hk
  simp only [if_true] at l1 l2
  clear hb1 hb2 hm
  go_enter Tryz.func118, Tryz.ntmps118
  go_wp2_with fail
  go_region
  go_wp2_with fail
  go_quiet (fail)
  go_wp2_with fail
  go_ret
  exact ⟨rfl, Below.draws (((Below.refl _ _).alloc (Nat.le_refl _) _).alloc (by simp) _).drew _⟩
set_option maxRecDepth 100000 in
set_option maxHeartbeats 1000000 in
theorem fits_yes1 (g : Nat) (k n p m c L : Int) (a : Option Addr) (len cap C r : Nat) (w : World) (hC : C < w.heap.size) (hr : r < w.heap.size) (hm : w.heap[r]? = some (.map kTab 6))
    (hl : ∀ W : World, W.heap[r]? = some (.map kTab 6) → (Instr.lookup 133 (.map (some r)) (.int .i64 k) true).run Tryz.prog W = .ok (.tuple #[.agg #[.int .i64 c, .func (.func 105) #[] #[], .func (.func g) #[] #[]], .bool true]) W)
    (hf : ∀ W : World, Calls Tryz.prog 105 #[.int .i64 p, .int .i64 m] W fun e w' => e = .returned (.int .i64 L) ∧ w' = W)
    (c0 : w.cell? ⟨C, 0, none⟩ = some (.map (some r))) (c1 : w.cell? ⟨C, 1, none⟩ = some (.int .i64 p)) (c2 : w.cell? ⟨C, 2, none⟩ = some (.int .i64 m)) :
    Calls Tryz.prog 118 #[.pointer (some ⟨C, 0, none⟩), .agg #[.int .i64 k, .int .i64 n, .slice a len cap]] w fun e w' => e = .returned (.bool (decide ((len : Int) = c) && (decide (0 ≤ n) && decide (n < L)))) ∧ Below w.heap.size w w' := by
  have hb1 : (w.alloc (.cells #[.int .i64 k, .int .i64 n, .slice a len cap] 45)).heap[r]? = some (.map kTab 6) := by rw [(MapKept.heap_alloc w _).2 r hr]; exact hm
  have hb2 : ∀ o, ((w.alloc (.cells #[.int .i64 k, .int .i64 n, .slice a len cap] 45)).alloc o).heap[r]? = some (.map kTab 6) := fun o => by rw [(MapKept.heap_alloc _ _).2 r (by simp; omega)]; exact hb1
  have l1 := hl (w.alloc (.cells #[.int .i64 k, .int .i64 n, .slice a len cap] 45)).drew hb1
  have l2 := fun o => hl ((w.alloc (.cells #[.int .i64 k, .int .i64 n, .slice a len cap] 45)).alloc o).drew (hb2 o)
  have HF := Lib.hid hf
  clear hb1 hb2 hm hl hf
  by_cases h1 : (len : Int) = c
  · subst h1
    have e1 : decide ((len : Int) = (len : Int)) = true := by simp
    by_cases h2 : 0 ≤ n
    · have d1 : (((len : Nat) : Int) == (len : Int)) = true := by simp
      have d2 : decide (0 ≤ n) = true := by simpa using h2
      rw [e1, d2]
      clear e1
      go_enter Tryz.func118, Tryz.ntmps118
      go_wp2_with fail
      go_region
      go_wp2_with fail
      go_quiet ((go_at_call 105; exact quiet_more (HF.out _)))
      go_wp2_with fail
      go_ret
      exact ⟨rfl, Below.draws (((Below.refl _ _).alloc (Nat.le_refl _) _).alloc (by simp) _).drew _⟩
    · have d1 : (((len : Nat) : Int) == (len : Int)) = true := by simp
      have d2 : decide (0 ≤ n) = false := by simpa using h2
      rw [e1, d2]
      clear e1
      go_enter Tryz.func118, Tryz.ntmps118
      go_wp2_with fail
      go_region
      go_wp2_with fail
      go_quiet (fail)
      go_wp2_with fail
      go_ret
      exact ⟨rfl, Below.draws (((Below.refl _ _).alloc (Nat.le_refl _) _).alloc (by simp) _).drew _⟩
  · have d1 : ((len : Int) == c) = false := beq_eq_false_iff_ne.2 h1
    have e1 : decide ((len : Int) = c) = false := by simpa using h1
    rw [e1]
    clear e1
    go_enter Tryz.func118, Tryz.ntmps118
    go_wp2_with fail
    go_region
    go_wp2_with fail
    go_quiet (fail)
    go_wp2_with fail
    go_ret
    exact ⟨rfl, Below.draws (((Below.refl _ _).alloc (Nat.le_refl _) _).alloc (by simp) _).drew _⟩
set_option maxRecDepth 100000 in
set_option maxHeartbeats 1000000 in
theorem fits_yes5 (g : Nat) (k n p m c L : Int) (a : Option Addr) (len cap C r : Nat) (w : World) (hC : C < w.heap.size) (hr : r < w.heap.size) (hm : w.heap[r]? = some (.map kTab 6))
    (hl : ∀ W : World, W.heap[r]? = some (.map kTab 6) → (Instr.lookup 133 (.map (some r)) (.int .i64 k) true).run Tryz.prog W = .ok (.tuple #[.agg #[.int .i64 c, .func (.func 110) #[] #[], .func (.func g) #[] #[]], .bool true]) W)
    (hf : ∀ W : World, Calls Tryz.prog 110 #[.int .i64 p, .int .i64 m] W fun e w' => e = .returned (.int .i64 L) ∧ w' = W)
    (c0 : w.cell? ⟨C, 0, none⟩ = some (.map (some r))) (c1 : w.cell? ⟨C, 1, none⟩ = some (.int .i64 p)) (c2 : w.cell? ⟨C, 2, none⟩ = some (.int .i64 m)) :
    Calls Tryz.prog 118 #[.pointer (some ⟨C, 0, none⟩), .agg #[.int .i64 k, .int .i64 n, .slice a len cap]] w fun e w' => e = .returned (.bool (decide ((len : Int) = c) && (decide (0 ≤ n) && decide (n < L)))) ∧ Below w.heap.size w w' := by
  have hb1 : (w.alloc (.cells #[.int .i64 k, .int .i64 n, .slice a len cap] 45)).heap[r]? = some (.map kTab 6) := by rw [(MapKept.heap_alloc w _).2 r hr]; exact hm
  have hb2 : ∀ o, ((w.alloc (.cells #[.int .i64 k, .int .i64 n, .slice a len cap] 45)).alloc o).heap[r]? = some (.map kTab 6) := fun o => by rw [(MapKept.heap_alloc _ _).2 r (by simp; omega)]; exact hb1
  have l1 := hl (w.alloc (.cells #[.int .i64 k, .int .i64 n, .slice a len cap] 45)).drew hb1
  have l2 := fun o => hl ((w.alloc (.cells #[.int .i64 k, .int .i64 n, .slice a len cap] 45)).alloc o).drew (hb2 o)
  have HF := Lib.hid hf
  clear hb1 hb2 hm hl hf
  by_cases h1 : (len : Int) = c
  · subst h1
    have e1 : decide ((len : Int) = (len : Int)) = true := by simp
    by_cases h2 : 0 ≤ n
    · have d1 : (((len : Nat) : Int) == (len : Int)) = true := by simp
      have d2 : decide (0 ≤ n) = true := by simpa using h2
      rw [e1, d2]
      clear e1
      go_enter Tryz.func118, Tryz.ntmps118
      go_wp2_with fail
      go_region
      go_wp2_with fail
      go_quiet ((go_at_call 110; exact quiet_more (HF.out _)))
      go_wp2_with fail
      go_ret
      exact ⟨rfl, Below.draws (((Below.refl _ _).alloc (Nat.le_refl _) _).alloc (by simp) _).drew _⟩
    · have d1 : (((len : Nat) : Int) == (len : Int)) = true := by simp
      have d2 : decide (0 ≤ n) = false := by simpa using h2
      rw [e1, d2]
      clear e1
      go_enter Tryz.func118, Tryz.ntmps118
      go_wp2_with fail
      go_region
      go_wp2_with fail
      go_quiet (fail)
      go_wp2_with fail
      go_ret
      exact ⟨rfl, Below.draws (((Below.refl _ _).alloc (Nat.le_refl _) _).alloc (by simp) _).drew _⟩
  · have d1 : ((len : Int) == c) = false := beq_eq_false_iff_ne.2 h1
    have e1 : decide ((len : Int) = c) = false := by simpa using h1
    rw [e1]
    clear e1
    go_enter Tryz.func118, Tryz.ntmps118
    go_wp2_with fail
    go_region
    go_wp2_with fail
    go_quiet (fail)
    go_wp2_with fail
    go_ret
    exact ⟨rfl, Below.draws (((Below.refl _ _).alloc (Nat.le_refl _) _).alloc (by simp) _).drew _⟩
set_option maxRecDepth 100000 in
set_option maxHeartbeats 1000000 in
theorem fits_yes7 (g : Nat) (k n p m c L : Int) (a : Option Addr) (len cap C r : Nat) (w : World) (hC : C < w.heap.size) (hr : r < w.heap.size) (hm : w.heap[r]? = some (.map kTab 6))
    (hl : ∀ W : World, W.heap[r]? = some (.map kTab 6) → (Instr.lookup 133 (.map (some r)) (.int .i64 k) true).run Tryz.prog W = .ok (.tuple #[.agg #[.int .i64 c, .func (.func 112) #[] #[], .func (.func g) #[] #[]], .bool true]) W)
    (hf : ∀ W : World, Calls Tryz.prog 112 #[.int .i64 p, .int .i64 m] W fun e w' => e = .returned (.int .i64 L) ∧ w' = W)
    (c0 : w.cell? ⟨C, 0, none⟩ = some (.map (some r))) (c1 : w.cell? ⟨C, 1, none⟩ = some (.int .i64 p)) (c2 : w.cell? ⟨C, 2, none⟩ = some (.int .i64 m)) :
    Calls Tryz.prog 118 #[.pointer (some ⟨C, 0, none⟩), .agg #[.int .i64 k, .int .i64 n, .slice a len cap]] w fun e w' => e = .returned (.bool (decide ((len : Int) = c) && (decide (0 ≤ n) && decide (n < L)))) ∧ Below w.heap.size w w' := by
  have hb1 : (w.alloc (.cells #[.int .i64 k, .int .i64 n, .slice a len cap] 45)).heap[r]? = some (.map kTab 6) := by rw [(MapKept.heap_alloc w _).2 r hr]; exact hm
  have hb2 : ∀ o, ((w.alloc (.cells #[.int .i64 k, .int .i64 n, .slice a len cap] 45)).alloc o).heap[r]? = some (.map kTab 6) := fun o => by rw [(MapKept.heap_alloc _ _).2 r (by simp; omega)]; exact hb1
  have l1 := hl (w.alloc (.cells #[.int .i64 k, .int .i64 n, .slice a len cap] 45)).drew hb1
  have l2 := fun o => hl ((w.alloc (.cells #[.int .i64 k, .int .i64 n, .slice a len cap] 45)).alloc o).drew (hb2 o)
  have HF := Lib.hid hf
  clear hb1 hb2 hm hl hf
  by_cases h1 : (len : Int) = c
  · subst h1
    have e1 : decide ((len : Int) = (len : Int)) = true := by simp
    by_cases h2 : 0 ≤ n
    · have d1 : (((len : Nat) : Int) == (len : Int)) = true := by simp
      have d2 : decide (0 ≤ n) = true := by simpa using h2
      rw [e1, d2]
      clear e1
      go_enter Tryz.func118, Tryz.ntmps118
      go_wp2_with fail
      go_region
      go_wp2_with fail
      go_quiet ((go_at_call 112; exact quiet_more (HF.out _)))
      go_wp2_with fail
      go_ret
      exact ⟨rfl, Below.draws (((Below.refl _ _).alloc (Nat.le_refl _) _).alloc (by simp) _).drew _⟩
    · have d1 : (((len : Nat) : Int) == (len : Int)) = true := by simp
      have d2 : decide (0 ≤ n) = false := by simpa using h2
      rw [e1, d2]
      clear e1
      go_enter Tryz.func118, Tryz.ntmps118
      go_wp2_with fail
      go_region
      go_wp2_with fail
      go_quiet (fail)
      go_wp2_with fail
      go_ret
      exact ⟨rfl, Below.draws (((Below.refl _ _).alloc (Nat.le_refl _) _).alloc (by simp) _).drew _⟩
  · have d1 : ((len : Int) == c) = false := beq_eq_false_iff_ne.2 h1
    have e1 : decide ((len : Int) = c) = false := by simpa using h1
    rw [e1]
    clear e1
    go_enter Tryz.func118, Tryz.ntmps118
    go_wp2_with fail
    go_region
    go_wp2_with fail
    go_quiet (fail)
    go_wp2_with fail
    go_ret
    exact ⟨rfl, Below.draws (((Below.refl _ _).alloc (Nat.le_refl _) _).alloc (by simp) _).drew _⟩
theorem fits_any (k n p m : Int) (a : Option Addr) (len cap C r : Nat) (w : World) (hC : C < w.heap.size) (hr : r < w.heap.size) (hm : w.heap[r]? = some (.map kTab 6))
    (c0 : w.cell? ⟨C, 0, none⟩ = some (.map (some r))) (c1 : w.cell? ⟨C, 1, none⟩ = some (.int .i64 p)) (c2 : w.cell? ⟨C, 2, none⟩ = some (.int .i64 m)) :
    Calls Tryz.prog 118 #[.pointer (some ⟨C, 0, none⟩), .agg #[.int .i64 k, .int .i64 n, .slice a len cap]] w fun e w' => e = .returned (.bool (fitsB p m k n len)) ∧ Below w.heap.size w w' := by
  by_cases hk : k < 1 ∨ 6 < k
  · have : fitsB p m k n len = false := by
      unfold fitsB kidsOf
      rw [if_neg (by omega), if_neg (by omega), if_neg (by omega)]
      have : decide ((len : Int) = -1) = false := by simp
      rw [this]; rfl
    rw [this]
    exact fits_no k n a len cap C r w hk hC hr hm c0
  · have h6 : k = 1 ∨ k = 2 ∨ k = 3 ∨ k = 4 ∨ k = 5 ∨ k = 6 := by omega
    rcases h6 with rfl | rfl | rfl | rfl | rfl | rfl
    · exact fits_yes1 106 1 n p m 0 1 a len cap C r w hC hr hm (fun W hW => run_look W r hW 1 true _ rfl) (kf1_any p m) c0 c1 c2
    · exact fits_yes1 107 2 n p m 1 1 a len cap C r w hC hr hm (fun W hW => run_look W r hW 2 true _ rfl) (kf1_any p m) c0 c1 c2
    · exact fits_yes1 108 3 n p m 2 1 a len cap C r w hC hr hm (fun W hW => run_look W r hW 3 true _ rfl) (kf1_any p m) c0 c1 c2
    · exact fits_yes1 109 4 n p m 2 1 a len cap C r w hC hr hm (fun W hW => run_look W r hW 4 true _ rfl) (kf1_any p m) c0 c1 c2
    · exact fits_yes5 111 5 n p m 0 p a len cap C r w hC hr hm (fun W hW => run_look W r hW 5 true _ rfl) (kf5_any p m) c0 c1 c2
    · exact fits_yes7 113 6 n p m 0 m a len cap C r w hC hr hm (fun W hW => run_look W r hW 6 true _ rfl) (kf7_any p m) c0 c1 c2
end Go.Proofs.YtnfhpombnbpdcaaGreat
