/- Right. No condition but those that stand in each statement. -/
import Derived.Deep.RegionWith
import Derived.Deep.RegionHeld3
import Derived.Test.YtnfhpombnbpdcaaGreatZQ6
namespace Go.Proofs.YtnfhpombnbpdcaaGreat
open Go.RowKit
theorem rightB_c {p m : Int} (k n : Int) (f : Fo) (h : 0 ≤ p ∧ p ≤ 5 ∧ 0 ≤ m ∧ m ≤ 10) : rightB p m k n f = (cNode p m k n f 12 100).isSome := by
  unfold rightB cNode
  rw [decide_eq_true h, rNode_fits p m k n f.len 12 _ (by omega) (fun h => rAll_nil_of p m f _ (by omega))]
  cases hf : fitsB p m k n f.len with
  | false => simp
  | true =>
    rw [if_neg (by simp), cAll_eq]
    by_cases h1 : rAll p m f 11 = true
    · by_cases h2 : f.size + 1 ≤ 100
      · rw [if_pos ⟨h1, by omega⟩, decide_eq_true h2, h1]; rfl
      · rw [if_neg (by rintro ⟨_, h3⟩; omega), decide_eq_false h2]; rfl
    · rw [if_neg (by rintro ⟨h3, _⟩; exact h1 h3)]
      simp [h1]
theorem rightB_out {p m : Int} (k n : Int) (ks : Fo) (h : ¬ (0 ≤ p ∧ p ≤ 5 ∧ 0 ≤ m ∧ m ≤ 10)) : rightB p m k n ks = false := by
  unfold rightB; rw [decide_eq_false h]; rfl
set_option maxRecDepth 100000 in
set_option maxHeartbeats 2000000 in
theorem right_any (p m k n : Int) (f : Fo) (a : Option Addr) (cap B r : Nat) (w : World) (hsl : SlIn w (· < B) f a cap) (hB : B ≤ w.heap.size) (hm : w.heap[r]? = some (.map kTab 6)) :
    Calls Tryz.prog 96 #[.map (some r), .agg #[.int .i64 k, .int .i64 n, .slice a f.len cap], .int .i64 p, .int .i64 m] w fun e w' => e = .returned (.bool (rightB p m k n f)) ∧ Below w.heap.size w w' := by
  have hr := lt_of_block hm
  have HM := Lib.hid hm
  clear hm
  by_cases h1 : p < 0
  · rw [rightB_out k n f (by omega)]
    go_enter Tryz.func96, Tryz.ntmps96
    go_wp2_with fail
    go_ret
    exact ⟨rfl, (Below.refl _ _).alloc (Nat.le_refl _) _⟩
  · by_cases h2 : 5 < p
    · rw [rightB_out k n f (by omega)]
      go_enter Tryz.func96, Tryz.ntmps96
      go_wp2_with fail
      go_ret
      exact ⟨rfl, (Below.refl _ _).alloc (Nat.le_refl _) _⟩
    · by_cases h3 : m < 0
      · rw [rightB_out k n f (by omega)]
        go_enter Tryz.func96, Tryz.ntmps96
        go_wp2_with fail
        go_ret
        exact ⟨rfl, (Below.refl _ _).alloc (Nat.le_refl _) _⟩
      · by_cases h4 : 10 < m
        · rw [rightB_out k n f (by omega)]
          go_enter Tryz.func96, Tryz.ntmps96
          go_wp2_with fail
          go_ret
          exact ⟨rfl, (Below.refl _ _).alloc (Nat.le_refl _) _⟩
        · rw [rightB_c k n f (by omega)]
          go_enter Tryz.func96, Tryz.ntmps96
          go_wp2_with fail
          have hb : Below w.heap.size w ((w.alloc (.cells #[.int .i64 k, .int .i64 n, .slice a f.len cap] 45)).alloc (.cells #[.map (some r), .int .i64 p, .int .i64 m, .int .i64 100] 142)) := ((Below.refl _ _).alloc (Nat.le_refl _) _).alloc (by simp) _
          have hat : ChkAt ((w.alloc (.cells #[.int .i64 k, .int .i64 n, .slice a f.len cap] 45)).alloc (.cells #[.map (some r), .int .i64 p, .int .i64 m, .int .i64 100] 142)) (w.heap.size + 1) r p m ((100 : Nat) : Int) :=
            ⟨by have := heap_new (w.alloc (.cells #[.int .i64 k, .int .i64 n, .slice a f.len cap] 45)) (.cells #[.map (some r), .int .i64 p, .int .i64 m, .int .i64 100] 142); simpa using this, (hb.block r hr).trans HM.out, by omega⟩
          refine (cright_any p m (f.size + 1) f (Nat.lt_succ_self _) k n 12 100 a cap B (w.heap.size + 1) r _ (hsl.below (hb.mono hB)) (by omega) (by omega) (by omega) hat).mono ?_
          rintro e w2 ⟨rfl, _, hg⟩
          have hg' := Lib.hid hg
          go_wp2_with fail
          go_ret
          exact ⟨rfl, ((hb.trans (Below.mk hg.os hg.tape hg.output hg.size (fun i hi => Only.block hg (by simp; omega) (by omega)))))⟩
set_option maxRecDepth 100000 in
set_option maxHeartbeats 2000000 in
theorem Right_any (p m k n : Int) (f : Fo) (a : Option Addr) (cap B : Nat) (w : World) (hsl : SlIn w (· < B) f a cap) (hB : B ≤ w.heap.size) :
    Calls Tryz.prog 81 #[.agg #[.int .i64 k, .int .i64 n, .slice a f.len cap], .int .i64 p, .int .i64 m] w fun e w' => e = .returned (.bool (rightB p m k n f)) ∧ Below w.heap.size w w' := by
  generalize hv : rightB p m k n f = v
  have HR : Hid (∀ (W : World) (r : Nat), SlIn W (· < B) f a cap → B ≤ W.heap.size → W.heap[r]? = some (.map kTab 6) → Calls Tryz.prog 96 #[.map (some r), .agg #[.int .i64 k, .int .i64 n, .slice a f.len cap], .int .i64 p, .int .i64 m] W fun e w' => e = .returned (.bool v) ∧ Below W.heap.size W w') := Lib.hid (fun W r h1 h2 h3 => by rw [← hv]; exact right_any p m k n f a cap B r W h1 h2 h3)
  clear hv
  go_enter Tryz.func81, Tryz.ntmps81
  go_wp2_with fail
  go_region_with (first | (go_at_call 97; refine (kinds_any _).mono ?_; rintro e w' ⟨rfl, rfl⟩) | (go_at_call 96; refine (HR.out _ _ (by exact hsl.below (((Below.refl _ _).alloc hB _).alloc (by simp; omega) _).drew) (by simp; omega) (by exact heap_second _ _ _)).mono ?_; rintro e w2 ⟨rfl, hb2⟩))
  all_goals go_wp2_with fail
  all_goals go_ret
  all_goals exact ⟨rfl, Below.step ((((Below.refl _ _).alloc (Nat.le_refl _) _).alloc (by simp) _).drew) hb2 (Nat.le_refl _)⟩
end Go.Proofs.YtnfhpombnbpdcaaGreat
