/- The contracts of the document's own test whether a level may be. No condition but that the level lies in memory. -/
import Derived.Test.YtcnhfoppfihhiaaNodes
import Derived.Deep.QuietTactic
import Derived.BigQuiet
namespace Go.Proofs.Ytcnhfoppfihhiaa
open Go.RowKit

set_option maxHeartbeats 1000000 in
theorem rkids_any (k : Int) (w : World) : Calls Try.prog 80 #[.int .i64 k] w fun e w' => e = .returned (.int .i64 (kidsOf k)) ∧ w' = w := by
  by_cases hk : k < 1 ∨ 6 < k
  · have e : kidsOf k = -1 := by unfold kidsOf; rw [if_neg (by omega), if_neg (by omega), if_neg (by omega)]
    have HE := Lib.hid e
    clear e
    have n1 : (k == 1) = false := beq_eq_false_iff_ne.2 (by omega)
    have n2 : (k == 2) = false := beq_eq_false_iff_ne.2 (by omega)
    have n3 : (k == 3) = false := beq_eq_false_iff_ne.2 (by omega)
    have n4 : (k == 4) = false := beq_eq_false_iff_ne.2 (by omega)
    have n5 : (k == 5) = false := beq_eq_false_iff_ne.2 (by omega)
    have n6 : (k == 6) = false := beq_eq_false_iff_ne.2 (by omega)
    clear hk
    go_enter Try.func80, Try.ntmps80
    go_wp2
    go_ret
    exact ⟨by rw [HE.out]; rfl, rfl⟩
  · have h6 : k = 1 ∨ k = 2 ∨ k = 3 ∨ k = 4 ∨ k = 5 ∨ k = 6 := by omega
    clear hk
    rcases h6 with rfl | rfl | rfl | rfl | rfl | rfl
    all_goals
      go_enter Try.func80, Try.ntmps80
      go_wp2
      go_ret
      exact ⟨rfl, rfl⟩

theorem ret_beq (n : Int) : Ending.returned (.bool (n == 0)) = .returned (.bool (rAll 0 0 .nil 0 && decide (n = 0))) := by simp [rAll]; rfl
theorem rNode_low (p m k n : Int) (len : Nat) {d : Int} (sub : Bool) (h : d < 1) : rNode p m k n len d sub = false := if_pos h
theorem rNode_len (p m k n : Int) (len : Nat) {d : Int} (sub : Bool) (hl : (len : Int) ≠ kidsOf k) : rNode p m k n len d sub = false := by
  unfold rNode; rw [if_pos hl]; split <;> rfl
theorem rNode_5 (p m n : Int) (len : Nat) {d : Int} (sub : Bool) (h : ¬ d < 1) (hl : (len : Int) = kidsOf 5) : rNode p m 5 n len d sub = (decide (0 ≤ n) && decide (n < p)) := by
  unfold rNode; rw [if_neg h, if_neg (by simpa using hl), if_pos rfl]; simp
theorem rNode_6 (p m n : Int) (len : Nat) {d : Int} (sub : Bool) (h : ¬ d < 1) (hl : (len : Int) = kidsOf 6) : rNode p m 6 n len d sub = (decide (0 ≤ n) && decide (n < m)) := by
  unfold rNode; rw [if_neg h, if_neg (by simpa using hl), if_neg (by decide), if_pos rfl]; simp
theorem rNode_rest (p m k n : Int) (len : Nat) {d : Int} (sub : Bool) (h : ¬ d < 1) (hl : (len : Int) = kidsOf k) (h5 : k ≠ 5) (h6 : k ≠ 6) : rNode p m k n len d sub = (sub && decide (n = 0)) := by
  unfold rNode; rw [if_neg h, if_neg (by simpa using hl), if_neg h5, if_neg h6]

set_option maxRecDepth 100000 in
set_option maxHeartbeats 2000000 in
theorem rright_any (p m : Int) (s : Nat) : ∀ (f : Fo), f.size < s → ∀ (k n d : Int) (a : Option Addr) (cap B : Nat) (w : World), SlIn w (· < B) f a cap → B ≤ w.heap.size → 0 ≤ d → d ≤ 12 →
    Calls Try.prog 70 #[.agg #[.int .i64 k, .int .i64 n, .slice a f.len cap], .int .i64 p, .int .i64 m, .int .i64 d] w fun e w' => e = .returned (.bool (rNode p m k n f.len d (rAll p m f (d - 1)))) ∧ Below w.heap.size w w' := by
  induction s with
  | zero => intro f hs; omega
  | succ s ih =>
    intro f hs k n d a cap B w hsl hB h1 h2
    have IH := Lib.hid ih
    clear ih
    have hlen := hsl.len
    by_cases hd : d < 1
    · rw [rNode_low p m k n f.len _ hd]
      have dd : decide (d < 1) = true := by simpa using hd
      go_enter Try.func70, Try.ntmps70
      go_wp2_with fail
      go_quiet (fail)
      go_wp2_with fail
      go_ret
      exact ⟨rfl, Below.draws ((Below.refl _ _).alloc (Nat.le_refl _) _) _⟩
    · have dd : decide (d < 1) = false := by simpa using hd
      by_cases hl : (f.len : Int) = kidsOf k
      · have dl : ((f.len : Int) != kidsOf k) = false := by rw [hl]; simp
        by_cases h5 : k = 5
        · subst h5
          rw [rNode_5 p m n f.len _ hd hl]
          clear hl
          by_cases h0 : 0 ≤ n
          · have e0 : decide (0 ≤ n) = true := by simpa using h0
            rw [e0]
            go_enter Try.func70, Try.ntmps70
            go_wp2_with fail
            go_quiet ((go_at_call 80; exact Calls.quiet_of_same (rkids_any _ _)))
            go_wp2_with fail
            go_ret
            exact ⟨rfl, Below.draws ((Below.refl _ _).alloc (Nat.le_refl _) _) _⟩
          · have e0 : decide (0 ≤ n) = false := by simpa using h0
            rw [e0]
            go_enter Try.func70, Try.ntmps70
            go_wp2_with fail
            go_quiet ((go_at_call 80; exact Calls.quiet_of_same (rkids_any _ _)))
            go_wp2_with fail
            go_ret
            exact ⟨rfl, Below.draws ((Below.refl _ _).alloc (Nat.le_refl _) _) _⟩
        · by_cases h6 : k = 6
          · subst h6
            rw [rNode_6 p m n f.len _ hd hl]
            clear hl
            by_cases h0 : 0 ≤ n
            · have e0 : decide (0 ≤ n) = true := by simpa using h0
              rw [e0]
              go_enter Try.func70, Try.ntmps70
              go_wp2_with fail
              go_quiet ((go_at_call 80; exact Calls.quiet_of_same (rkids_any _ _)))
              go_wp2_with fail
              go_ret
              exact ⟨rfl, Below.draws ((Below.refl _ _).alloc (Nat.le_refl _) _) _⟩
            · have e0 : decide (0 ≤ n) = false := by simpa using h0
              rw [e0]
              go_enter Try.func70, Try.ntmps70
              go_wp2_with fail
              go_quiet ((go_at_call 80; exact Calls.quiet_of_same (rkids_any _ _)))
              go_wp2_with fail
              go_ret
              exact ⟨rfl, Below.draws ((Below.refl _ _).alloc (Nat.le_refl _) _) _⟩
          · have n5 : (k == 5) = false := beq_eq_false_iff_ne.2 h5
            have n6 : (k == 6) = false := beq_eq_false_iff_ne.2 h6
            rw [rNode_rest p m k n f.len _ hd hl h5 h6]
            clear hl h5 h6
            go_enter Try.func70, Try.ntmps70
            go_wp2_with fail
            go_quiet ((go_at_call 80; exact Calls.quiet_of_same (rkids_any _ _)))
            go_wp2_with fail
            go_loopw [9] (fun i wr => ∃ (j : Nat) (r : Fo), i = .int .i64 j ∧ Hid (j + r.len = f.len) ∧ Hid (r.size ≤ f.size) ∧
                Hid (∀ b o, a = some ⟨b, o, none⟩ → FoIn w (· < B) r b (o + j * 3)) ∧ Hid (rAll p m r (d - 1) = rAll p m f (d - 1)) ∧ Below (w.heap.size + 1) (w.alloc (.cells #[.int .i64 k, .int .i64 n, .slice a f.len cap] 38)) wr)
              (fun i _ => f.len - (intOf i).toNat)
            case atStart => exact ⟨0, f, rfl, Lib.hid (by omega), Lib.hid (Nat.le_refl _), Lib.hid (by rintro b o rfl; simpa using hsl.foIn), Lib.hid rfl, Below.draws (Below.refl _ _) _⟩
            case round =>
              obtain ⟨j, r, rfl, hj, hrs, hin, hfew, hb⟩ := hrel
              have c0 := bcell hb w.heap.size 0 (by omega)
              have c1 := bcell hb w.heap.size 1 (by omega)
              have c2 := bcell hb w.heap.size 2 (by omega)
              simp at c0 c1 c2
              have hwB : Below B w wr := ((Below.refl B w).alloc hB _).trans (hb.mono (by omega))
              cases r with
              | nil =>
                have hlt : ¬ (j : Int) < (f.len : Int) := by have := hj.out; simp [Fo.len] at this; omega
                have d' : decide ((j : Int) < (f.len : Int)) = false := by simpa using hlt
                go_wp2_with fail
                go_ret
                exact ⟨by rw [← hfew.out]; exact ret_beq n, Below.trans ((Below.refl _ _).alloc (Nat.le_refl _) _) (hb.mono (by omega))⟩
              | cons k' n' ks r' =>
                have hlt : j < f.len := by have := hj.out; simp [Fo.len] at this; omega
                obtain ⟨b, o, rfl, hbB, hf0⟩ := hsl.some (by omega)
                obtain ⟨e0, e1, ⟨a', cap', e2, hsl'⟩, hrest⟩ := (hin.out b o rfl).below hwB _ _ _ hbB |>.first
                have hks : ks.size < s := by have := hrs.out; simp [Fo.size] at this; omega
                have HC : Hid (rAll p m (.cons k' n' ks r') (d - 1) = (rNode p m k' n' ks.len (d - 1) (rAll p m ks (d - 1 - 1)) && rAll p m r' (d - 1))) := Lib.hid rfl
                go_wp2_with fail
                refine (IH.out ks hks _ _ _ _ _ B _ hsl' (Nat.le_trans hB hwB.size) (by omega) (by omega)).mono ?_
                rintro e w2 ⟨rfl, hb2⟩
                have hb' := Below.step hb hb2 (by simp)
                generalize rNode p m k' n' ks.len (d - 1) (rAll p m ks (d - 1 - 1)) = v at HC ⊢
                cases v with
                | true =>
                  go_wp2_with fail
                  go_roundw
                  case rel => exact ⟨j + 1, r', by go_num, Lib.hid (by have := hj.out; simp [Fo.len] at this; omega), Lib.hid (by have := hrs.out; simp [Fo.size] at this; omega), Lib.hid (by rintro b' o' h; cases h; have := (hin.out b o rfl).2.2.2; rwa [show o + (j + 1) * 3 = o + j * 3 + 3 by omega]), Lib.hid (by rw [← hfew.out, HC.out]; rfl), hb'⟩
                  case measure => simp [intOf]; omega
                | false =>
                  go_wp2_with fail
                  go_ret
                  exact ⟨by rw [← hfew.out, HC.out]; rfl, Below.trans ((Below.refl _ _).alloc (Nat.le_refl _) _) (hb'.mono (by omega))⟩
      · have dl : ((f.len : Int) != kidsOf k) = true := by rw [bne_iff_ne]; exact hl
        rw [rNode_len p m k n f.len _ hl]
        clear hl
        go_enter Try.func70, Try.ntmps70
        go_wp2_with fail
        go_quiet ((go_at_call 80; exact Calls.quiet_of_same (rkids_any _ _)))
        go_wp2_with fail
        go_ret
        exact ⟨rfl, Below.draws ((Below.refl _ _).alloc (Nat.le_refl _) _) _⟩
end Go.Proofs.Ytcnhfoppfihhiaa
