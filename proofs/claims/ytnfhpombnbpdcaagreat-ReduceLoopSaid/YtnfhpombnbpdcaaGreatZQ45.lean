/- Trq, Nodes, Rright, RRight, Trshape, Trlift, Tropen, Trright, Trright2, Qin, Kmixq, Tmixq, Trqq, R5sub, R5subq, Nspec, Same, Teq, Tsame, Ysame0. No condition but those that stand in each statement. -/
import Derived.Test.YtnfhpombnbpdcaaGreatZQ26
import Derived.Test.YtnfhpombnbpdcaaGreatZQ4
import Derived.Deep.QuietTactic
import Derived.BigQuiet
import Derived.Deep.RegionHeld3
import Derived.Test.YtnfhpombnbpdcaaGreatZQ17
import Derived.Deep.RegionLaw
import Derived.IntWalk
import Derived.Test.YtnfhpombnbpdcaaGreatZQ0
import Derived.Test.YtnfhpombnbpdcaaGreatZQ37
import Derived.Test.YtnfhpombnbpdcaaGreatZQ16
import Derived.RangeFuncBox
import Derived.Test.YtnfhpombnbpdcaaGreatZQ11
import Derived.Test.YtnfhpombnbpdcaaGreatZQ10
import Derived.Test.YtnfhpombnbpdcaaGreatZQ25
import Derived.Test.YtnfhpombnbpdcaaGreatZQ24
import Derived.Test.YtnfhpombnbpdcaaGreatZQ12
import Derived.RegionTactic
import Derived.BigRegion
import Derived.ChangeAlike
import Derived.Deep.LoopGhost
import Derived.Deep.DeepCutAuto
import Derived.Test.YtnfhpombnbpdcaaGreatZQ2
namespace Go.Proofs.YtnfhpombnbpdcaaGreat
open Go.RowKit
theorem rqHeld {W w' : World} {N b i : Nat} {x0 x3 y0 y1 y2 y3 : Value} (h : ∀ q, q ≤ N → w'.heap[q]? = W.heap[q]?) (hb : b ≤ N) (q0 : W.cell? ⟨N, 0, none⟩ = some x0) (q3 : W.cell? ⟨N, 3, none⟩ = some x3) (e0 : W.cell? ⟨b, i, none⟩ = some y0) (e1 : W.cell? ⟨b, i + 1, none⟩ = some y1) (e2 : W.cell? ⟨b, i + 2, none⟩ = some y2) (e3 : W.cell? ⟨b, i + 3, none⟩ = some y3) :
    w'.cell? ⟨N, 0, none⟩ = some x0 ∧ w'.cell? ⟨N, 3, none⟩ = some x3 ∧ w'.cell? ⟨b, i, none⟩ = some y0 ∧ w'.cell? ⟨b, i + 1, none⟩ = some y1 ∧ w'.cell? ⟨b, i + 2, none⟩ = some y2 ∧ w'.cell? ⟨b, i + 3, none⟩ = some y3 :=
  ⟨(World.cell?_of_block (a := ⟨N, 0, none⟩) (h _ (Nat.le_refl _))).trans q0, (World.cell?_of_block (a := ⟨N, 3, none⟩) (h _ (Nat.le_refl _))).trans q3, (World.cell?_of_block (a := ⟨b, i, none⟩) (h _ hb)).trans e0, (World.cell?_of_block (a := ⟨b, i + 1, none⟩) (h _ hb)).trans e1, (World.cell?_of_block (a := ⟨b, i + 2, none⟩) (h _ hb)).trans e2, (World.cell?_of_block (a := ⟨b, i + 3, none⟩) (h _ hb)).trans e3⟩
end Go.Proofs.YtnfhpombnbpdcaaGreat
namespace Go.Proofs.YtnfhpombnbpdcaaGreat
open Go.RowKit
set_option maxRecDepth 100000 in
set_option maxHeartbeats 1000000 in
theorem nodes_any (s : Nat) : ∀ (f : Fo), f.size < s → ∀ (k n m : Int) (a : Option Addr) (cap B : Nat) (w : World), SlIn w (· < B) f a cap → B ≤ w.heap.size → 1 ≤ m → m ≤ 2000 →
    Calls Tryz.prog 91 #[.agg #[.int .i64 k, .int .i64 n, .slice a f.len cap], .int .i64 m] w fun e w' => e = .returned (.int .i64 (nodesF f m 1)) ∧ Below w.heap.size w w' := by
  induction s with
  | zero => intro f hs; omega
  | succ s ih =>
    intro f hs k n m a cap B w hsl hB h1 h2
    have IH := Lib.hid ih
    clear ih
    have hlen := hsl.len
    go_enter Tryz.func91, Tryz.ntmps91
    go_wp2_with fail
    go_loopw [5, 6] (fun mm i wr => ∃ (j : Nat) (r : Fo) (q : Int), i = .int .i64 j ∧ mm = .int .i64 q ∧ 1 ≤ q ∧ q ≤ m ∧ Hid (j + r.len = f.len) ∧ Hid (r.size ≤ f.size) ∧
        Hid (∀ b o, a = some ⟨b, o, none⟩ → FoIn w (· < B) r b (o + j * 3)) ∧ Hid (nodesF r m q = nodesF f m 1) ∧ Below (w.heap.size + 1) (w.alloc (.cells #[.int .i64 k, .int .i64 n, .slice a f.len cap] 45)) wr)
      (fun _ i _ => f.len - (intOf i).toNat)
    case atStart => exact ⟨0, f, 1, rfl, rfl, by omega, by omega, Lib.hid (by omega), Lib.hid (Nat.le_refl _), Lib.hid (by rintro b o rfl; simpa using hsl.foIn), Lib.hid rfl, Below.refl _ _⟩
    case round =>
      obtain ⟨j, r, q, rfl, rfl, hq0, hq1, hj, hrs, hin, hfew, hb⟩ := hrel
      have c0 := bcell hb w.heap.size 0 (by omega)
      have c1 := bcell hb w.heap.size 1 (by omega)
      have c2 := bcell hb w.heap.size 2 (by omega)
      simp at c0 c1 c2
      have hwB : Below B w wr := ((Below.refl B w).alloc hB _).trans (hb.mono (by omega))
      cases r with
      | nil =>
        have hlt : ¬ (j : Int) < (f.len : Int) := by have := hj.out; simp [Fo.len] at this; omega
        have d : decide ((j : Int) < (f.len : Int)) = false := by simpa using hlt
        go_wp2_with fail
        go_ret
        exact ⟨by rw [← hfew.out]; rfl, Below.trans ((Below.refl _ _).alloc (Nat.le_refl _) _) (hb.mono (by omega))⟩
      | cons k' n' ks r' =>
        have hlt : j < f.len := by have := hj.out; simp [Fo.len] at this; omega
        by_cases hq : q < m
        · obtain ⟨b, o, rfl, hbB, hf0⟩ := hsl.some (by omega)
          obtain ⟨e0, e1, ⟨a', cap', e2, hsl'⟩, hrest⟩ := (hin.out b o rfl).below hwB _ _ _ hbB |>.first
          have hks : ks.size < s := by have := hrs.out; simp [Fo.size] at this; omega
          have HG := Lib.hid (nodesF_go k' n' ks r' hq)
          have hv := nodesF_eq ks (m - q) 1 (by omega) (by omega)
          have hv1 : 1 ≤ nodesF ks (m - q) 1 := by omega
          have hv2 : q + nodesF ks (m - q) 1 ≤ m := by omega
          clear hv
          go_wp2_with fail
          refine (IH.out ks hks _ _ _ _ _ B _ hsl' (Nat.le_trans hB hwB.size) (by omega) (by omega)).mono ?_
          rintro e w2 ⟨rfl, hb2⟩
          have hb' := Below.step hb hb2 (by simp)
          go_wp2_with fail
          go_roundw
          case rel => exact ⟨j + 1, r', _, by go_num, rfl, by omega, by omega, Lib.hid (by have := hj.out; simp [Fo.len] at this; omega), Lib.hid (by have := hrs.out; simp [Fo.size] at this; omega), Lib.hid (by rintro b' o' h; cases h; have := (hin.out b o rfl).2.2.2; rwa [show o + (j + 1) * 3 = o + j * 3 + 3 by omega]), Lib.hid (by rw [← hfew.out, HG.out]), hb'⟩
          case measure => simp [intOf]; omega
        · have HE := Lib.hid (nodesF_stop k' n' ks r' hq)
          have d : decide (q < m) = false := by simpa using hq
          have d' : decide ((j : Int) < (f.len : Int)) = true := by simp; omega
          go_wp2_with fail
          go_ret
          exact ⟨by rw [← hfew.out, HE.out]; rfl, Below.trans ((Below.refl _ _).alloc (Nat.le_refl _) _) (hb.mono (by omega))⟩
end Go.Proofs.YtnfhpombnbpdcaaGreat
namespace Go.Proofs.YtnfhpombnbpdcaaGreat
open Go.RowKit
set_option maxHeartbeats 1000000 in
theorem rkids_any (k : Int) (w : World) : Calls Tryz.prog 102 #[.int .i64 k] w fun e w' => e = .returned (.int .i64 (kidsOf k)) ∧ w' = w := by
  by_cases hk : k < 1 ∨ 6 < k
  · have e : kidsOf k = -1 := by unfold kidsOf; rw [if_neg (by omega), if_neg (by omega), if_neg (by omega)]
    have HE := Lib.hid e
    clear e
    have n1 : (k == 1) = false := beq_eq_false_iff_ne.2 (by omega)
    have n2 : (k == 2) = false := beq_eq_false_iff_ne.2 (by omega)
    have n3 : (k == 3) = false := beq_eq_false_iff_ne.2 (by omega)
    have n4 : (k == 4) = false := beq_eq_false_iff_ne.2 (by omega)
    have n5 : (k == 5) = false := beq_eq_false_iff_ne.2 (by omega)
    have n6 : (k == 6) = false := beq_eq_false_iff_ne.2 (by omega)
    clear hk
    go_enter Tryz.func102, Tryz.ntmps102
    go_wp2
    go_ret
    exact ⟨by rw [HE.out]; rfl, rfl⟩
  · have h6 : k = 1 ∨ k = 2 ∨ k = 3 ∨ k = 4 ∨ k = 5 ∨ k = 6 := by omega
    clear hk
    rcases h6 with rfl | rfl | rfl | rfl | rfl | rfl
    all_goals
      go_enter Tryz.func102, Tryz.ntmps102
      go_wp2
      go_ret
      exact ⟨rfl, rfl⟩
theorem ret_beq (n : Int) : Ending.returned (.bool (n == 0)) = .returned (.bool (rAll 0 0 .nil 0 && decide (n = 0))) := by simp [rAll]; rfl
theorem rNode_low (p m k n : Int) (len : Nat) {d : Int} (sub : Bool) (h : d < 1) : rNode p m k n len d sub = false := if_pos h
theorem rNode_len (p m k n : Int) (len : Nat) {d : Int} (sub : Bool) (hl : (len : Int) ≠ kidsOf k) : rNode p m k n len d sub = false := by
  unfold rNode; rw [if_pos hl]; split <;> rfl
theorem rNode_5 (p m n : Int) (len : Nat) {d : Int} (sub : Bool) (h : ¬ d < 1) (hl : (len : Int) = kidsOf 5) : rNode p m 5 n len d sub = (decide (0 ≤ n) && decide (n < p)) := by
  unfold rNode; rw [if_neg h, if_neg (by simpa using hl), if_pos rfl]; simp
theorem rNode_6 (p m n : Int) (len : Nat) {d : Int} (sub : Bool) (h : ¬ d < 1) (hl : (len : Int) = kidsOf 6) : rNode p m 6 n len d sub = (decide (0 ≤ n) && decide (n < m)) := by
  unfold rNode; rw [if_neg h, if_neg (by simpa using hl), if_neg (by decide), if_pos rfl]; simp
theorem rNode_rest (p m k n : Int) (len : Nat) {d : Int} (sub : Bool) (h : ¬ d < 1) (hl : (len : Int) = kidsOf k) (h5 : k ≠ 5) (h6 : k ≠ 6) : rNode p m k n len d sub = (sub && decide (n = 0)) := by
  unfold rNode; rw [if_neg h, if_neg (by simpa using hl), if_neg h5, if_neg h6]
set_option maxRecDepth 100000 in
set_option maxHeartbeats 2000000 in
theorem rright_any (p m : Int) (s : Nat) : ∀ (f : Fo), f.size < s → ∀ (k n d : Int) (a : Option Addr) (cap B : Nat) (w : World), SlIn w (· < B) f a cap → B ≤ w.heap.size → 0 ≤ d → d ≤ 12 →
    Calls Tryz.prog 92 #[.agg #[.int .i64 k, .int .i64 n, .slice a f.len cap], .int .i64 p, .int .i64 m, .int .i64 d] w fun e w' => e = .returned (.bool (rNode p m k n f.len d (rAll p m f (d - 1)))) ∧ Below w.heap.size w w' := by
  induction s with
  | zero => intro f hs; omega
  | succ s ih =>
    intro f hs k n d a cap B w hsl hB h1 h2
    have IH := Lib.hid ih
    clear ih
    have hlen := hsl.len
    by_cases hd : d < 1
    · rw [rNode_low p m k n f.len _ hd]
      have dd : decide (d < 1) = true := by simpa using hd
      go_enter Tryz.func92, Tryz.ntmps92
      go_wp2_with fail
      go_quiet (fail)
      go_wp2_with fail
      go_ret
      exact ⟨rfl, Below.draws ((Below.refl _ _).alloc (Nat.le_refl _) _) _⟩
    · have dd : decide (d < 1) = false := by simpa using hd
      by_cases hl : (f.len : Int) = kidsOf k
      · have dl : ((f.len : Int) != kidsOf k) = false := by rw [hl]; simp
        by_cases h5 : k = 5
        · subst h5
          rw [rNode_5 p m n f.len _ hd hl]
          clear hl
          by_cases h0 : 0 ≤ n
          · have e0 : decide (0 ≤ n) = true := by simpa using h0
            rw [e0]
            go_enter Tryz.func92, Tryz.ntmps92
            go_wp2_with fail
            go_quiet ((go_at_call 102; exact Calls.quiet_of_same (rkids_any _ _)))
            go_wp2_with fail
            go_ret
            exact ⟨rfl, Below.draws ((Below.refl _ _).alloc (Nat.le_refl _) _) _⟩
          · have e0 : decide (0 ≤ n) = false := by simpa using h0
            rw [e0]
            go_enter Tryz.func92, Tryz.ntmps92
            go_wp2_with fail
            go_quiet ((go_at_call 102; exact Calls.quiet_of_same (rkids_any _ _)))
            go_wp2_with fail
            go_ret
            exact ⟨rfl, Below.draws ((Below.refl _ _).alloc (Nat.le_refl _) _) _⟩
        · by_cases h6 : k = 6
          · subst h6
            rw [rNode_6 p m n f.len _ hd hl]
            clear hl
            by_cases h0 : 0 ≤ n
            · have e0 : decide (0 ≤ n) = true := by simpa using h0
              rw [e0]
              go_enter Tryz.func92, Tryz.ntmps92
              go_wp2_with fail
              go_quiet ((go_at_call 102; exact Calls.quiet_of_same (rkids_any _ _)))
              go_wp2_with fail
              go_ret
              exact ⟨rfl, Below.draws ((Below.refl _ _).alloc (Nat.le_refl _) _) _⟩
            · have e0 : decide (0 ≤ n) = false := by simpa using h0
              rw [e0]
              go_enter Tryz.func92, Tryz.ntmps92
              go_wp2_with fail
              go_quiet ((go_at_call 102; exact Calls.quiet_of_same (rkids_any _ _)))
              go_wp2_with fail
              go_ret
              exact ⟨rfl, Below.draws ((Below.refl _ _).alloc (Nat.le_refl _) _) _⟩
          · have n5 : (k == 5) = false := beq_eq_false_iff_ne.2 h5
            have n6 : (k == 6) = false := beq_eq_false_iff_ne.2 h6
            rw [rNode_rest p m k n f.len _ hd hl h5 h6]
            clear hl h5 h6
            go_enter Tryz.func92, Tryz.ntmps92
            go_wp2_with fail
            go_quiet ((go_at_call 102; exact Calls.quiet_of_same (rkids_any _ _)))
            go_wp2_with fail
            go_loopw [9] (fun i wr => ∃ (j : Nat) (r : Fo), i = .int .i64 j ∧ Hid (j + r.len = f.len) ∧ Hid (r.size ≤ f.size) ∧
                Hid (∀ b o, a = some ⟨b, o, none⟩ → FoIn w (· < B) r b (o + j * 3)) ∧ Hid (rAll p m r (d - 1) = rAll p m f (d - 1)) ∧ Below (w.heap.size + 1) (w.alloc (.cells #[.int .i64 k, .int .i64 n, .slice a f.len cap] 45)) wr)
              (fun i _ => f.len - (intOf i).toNat)
            case atStart => exact ⟨0, f, rfl, Lib.hid (by omega), Lib.hid (Nat.le_refl _), Lib.hid (by rintro b o rfl; simpa using hsl.foIn), Lib.hid rfl, Below.draws (Below.refl _ _) _⟩
            case round =>
              obtain ⟨j, r, rfl, hj, hrs, hin, hfew, hb⟩ := hrel
              have c0 := bcell hb w.heap.size 0 (by omega)
              have c1 := bcell hb w.heap.size 1 (by omega)
              have c2 := bcell hb w.heap.size 2 (by omega)
              simp at c0 c1 c2
              have hwB : Below B w wr := ((Below.refl B w).alloc hB _).trans (hb.mono (by omega))
              cases r with
              | nil =>
                have hlt : ¬ (j : Int) < (f.len : Int) := by have := hj.out; simp [Fo.len] at this; omega
                have d' : decide ((j : Int) < (f.len : Int)) = false := by simpa using hlt
                go_wp2_with fail
                go_ret
                exact ⟨by rw [← hfew.out]; exact ret_beq n, Below.trans ((Below.refl _ _).alloc (Nat.le_refl _) _) (hb.mono (by omega))⟩
              | cons k' n' ks r' =>
                have hlt : j < f.len := by have := hj.out; simp [Fo.len] at this; omega
                obtain ⟨b, o, rfl, hbB, hf0⟩ := hsl.some (by omega)
                obtain ⟨e0, e1, ⟨a', cap', e2, hsl'⟩, hrest⟩ := (hin.out b o rfl).below hwB _ _ _ hbB |>.first
                have hks : ks.size < s := by have := hrs.out; simp [Fo.size] at this; omega
                have HC : Hid (rAll p m (.cons k' n' ks r') (d - 1) = (rNode p m k' n' ks.len (d - 1) (rAll p m ks (d - 1 - 1)) && rAll p m r' (d - 1))) := Lib.hid rfl
                go_wp2_with fail
                refine (IH.out ks hks _ _ _ _ _ B _ hsl' (Nat.le_trans hB hwB.size) (by omega) (by omega)).mono ?_
                rintro e w2 ⟨rfl, hb2⟩
                have hb' := Below.step hb hb2 (by simp)
                generalize rNode p m k' n' ks.len (d - 1) (rAll p m ks (d - 1 - 1)) = v at HC ⊢
                cases v with
                | true =>
                  go_wp2_with fail
                  go_roundw
                  case rel => exact ⟨j + 1, r', by go_num, Lib.hid (by have := hj.out; simp [Fo.len] at this; omega), Lib.hid (by have := hrs.out; simp [Fo.size] at this; omega), Lib.hid (by rintro b' o' h; cases h; have := (hin.out b o rfl).2.2.2; rwa [show o + (j + 1) * 3 = o + j * 3 + 3 by omega]), Lib.hid (by rw [← hfew.out, HC.out]; rfl), hb'⟩
                  case measure => simp [intOf]; omega
                | false =>
                  go_wp2_with fail
                  go_ret
                  exact ⟨by rw [← hfew.out, HC.out]; rfl, Below.trans ((Below.refl _ _).alloc (Nat.le_refl _) _) (hb'.mono (by omega))⟩
      · have dl : ((f.len : Int) != kidsOf k) = true := by rw [bne_iff_ne]; exact hl
        rw [rNode_len p m k n f.len _ hl]
        clear hl
        go_enter Tryz.func92, Tryz.ntmps92
        go_wp2_with fail
        go_quiet ((go_at_call 102; exact Calls.quiet_of_same (rkids_any _ _)))
        go_wp2_with fail
        go_ret
        exact ⟨rfl, Below.draws ((Below.refl _ _).alloc (Nat.le_refl _) _) _⟩
end Go.Proofs.YtnfhpombnbpdcaaGreat
namespace Go.Proofs.YtnfhpombnbpdcaaGreat
open Go.RowKit
theorem rightB_no {p m : Int} (k n : Int) (ks : Fo) (h : ¬ (0 ≤ p ∧ p ≤ 5 ∧ 0 ≤ m ∧ m ≤ 10)) : rightB p m k n ks = false := by
  unfold rightB; rw [decide_eq_false h]; rfl
theorem rightB_big (p m k n : Int) {ks : Fo} (h : ¬ nodesF ks 101 1 ≤ 100) : rightB p m k n ks = false := by
  rw [nodesF_eq ks 101 1 (by omega) (by omega)] at h
  have : decide (ks.size + 1 ≤ 100) = false := decide_eq_false (by omega)
  unfold rightB; rw [this]; simp
theorem rightB_yes {p m : Int} (k n : Int) {ks : Fo} (h0 : 0 ≤ p ∧ p ≤ 5 ∧ 0 ≤ m ∧ m ≤ 10) (h : nodesF ks 101 1 ≤ 100) : rightB p m k n ks = rNode p m k n ks.len 12 (rAll p m ks (12 - 1)) := by
  rw [nodesF_eq ks 101 1 (by omega) (by omega)] at h
  have : decide (ks.size + 1 ≤ 100) = true := decide_eq_true (by omega)
  unfold rightB; rw [decide_eq_true h0, this]; rfl
set_option maxRecDepth 100000 in
set_option maxHeartbeats 2000000 in
theorem rRight_any (p m k n : Int) (f : Fo) (a : Option Addr) (cap B : Nat) (w : World) (hsl : SlIn w (· < B) f a cap) (hB : B ≤ w.heap.size) :
    Calls Tryz.prog 71 #[.agg #[.int .i64 k, .int .i64 n, .slice a f.len cap], .int .i64 p, .int .i64 m] w fun e w' => e = .returned (.bool (rightB p m k n f)) ∧ Below w.heap.size w w' := by
  by_cases h1 : 0 ≤ p
  · have d1 : decide (0 ≤ p) = true := decide_eq_true h1
    by_cases h2 : p ≤ 5
    · have d2 : decide (p ≤ 5) = true := decide_eq_true h2
      by_cases h3 : 0 ≤ m
      · have d3 : decide (0 ≤ m) = true := decide_eq_true h3
        by_cases h4 : m ≤ 10
        · have d4 : decide (m ≤ 10) = true := decide_eq_true h4
          by_cases h5 : nodesF f 101 1 ≤ 100
          · have d5 : decide (nodesF f 101 1 ≤ 100) = true := decide_eq_true h5
            rw [rightB_yes k n ⟨h1, h2, h3, h4⟩ h5]
            generalize hv : rNode p m k n f.len 12 (rAll p m f (12 - 1)) = v
            have HR := Lib.hid (fun W h0 hB' => rright_any p m (f.size + 1) f (Nat.lt_succ_self _) k n 12 a cap B W h0 hB' (by omega) (by omega))
            rw [hv] at HR
            clear hv
            go_enter Tryz.func71, Tryz.ntmps71
            go_wp2_with fail
            refine (nodes_any (f.size + 1) f (Nat.lt_succ_self _) _ _ _ _ _ B _ (hsl.below ((Below.refl _ _).alloc hB _)) (by simp; omega) (by omega) (by omega)).mono ?_
            rintro e w1 ⟨rfl, hb1⟩
            have hb1' : Below (w.heap.size + 1) (w.alloc (.cells #[.int .i64 k, .int .i64 n, .slice a f.len cap] 45)) w1 := by simpa using hb1
            have c0 := bcell hb1' w.heap.size 0 (by omega)
            have c1 := bcell hb1' w.heap.size 1 (by omega)
            have c2 := bcell hb1' w.heap.size 2 (by omega)
            simp at c0 c1 c2
            have hwB : Below B w w1 := ((Below.refl B w).alloc hB _).trans (hb1'.mono (by omega))
            clear hb1
            go_wp2_with fail
            refine (HR.out _ (hsl.below hwB) (Nat.le_trans hB hwB.size)).mono ?_
            rintro e w2 ⟨rfl, hb2⟩
            go_wp2_with fail
            go_ret
            exact ⟨rfl, Below.step (((Below.refl _ _).alloc (Nat.le_refl _) _).trans (hb1'.mono (by omega))) hb2 (Nat.le_refl _)⟩
          · have d5 : decide (nodesF f 101 1 ≤ 100) = false := decide_eq_false h5
            rw [rightB_big p m k n h5]
            go_enter Tryz.func71, Tryz.ntmps71
            go_wp2_with fail
            refine (nodes_any (f.size + 1) f (Nat.lt_succ_self _) _ _ _ _ _ B _ (hsl.below ((Below.refl _ _).alloc hB _)) (by simp; omega) (by omega) (by omega)).mono ?_
            rintro e w1 ⟨rfl, hb1⟩
            go_wp2_with fail
            go_ret
            exact ⟨rfl, Below.step ((Below.refl _ _).alloc (Nat.le_refl _) _) hb1 (Nat.le_refl _)⟩
        · have d4 : decide (m ≤ 10) = false := decide_eq_false h4
          rw [rightB_no k n f (fun h => h4 h.2.2.2)]
          go_enter Tryz.func71, Tryz.ntmps71
          go_wp2_with fail
          go_ret
          exact ⟨rfl, (Below.refl _ _).alloc (Nat.le_refl _) _⟩
      · have d3 : decide (0 ≤ m) = false := decide_eq_false h3
        rw [rightB_no k n f (fun h => h3 h.2.2.1)]
        go_enter Tryz.func71, Tryz.ntmps71
        go_wp2_with fail
        go_ret
        exact ⟨rfl, (Below.refl _ _).alloc (Nat.le_refl _) _⟩
    · have d2 : decide (p ≤ 5) = false := decide_eq_false h2
      rw [rightB_no k n f (fun h => h2 h.2.1)]
      go_enter Tryz.func71, Tryz.ntmps71
      go_wp2_with fail
      go_ret
      exact ⟨rfl, (Below.refl _ _).alloc (Nat.le_refl _) _⟩
  · have d1 : decide (0 ≤ p) = false := decide_eq_false h1
    rw [rightB_no k n f (fun h => h1 h.1)]
    go_enter Tryz.func71, Tryz.ntmps71
    go_wp2_with fail
    go_ret
    exact ⟨rfl, (Below.refl _ _).alloc (Nat.le_refl _) _⟩
end Go.Proofs.YtnfhpombnbpdcaaGreat
namespace Go.Proofs.YtnfhpombnbpdcaaGreat
open Go.RowKit
set_option maxHeartbeats 1000000 in
theorem r13kids_any (k : Int) (w : World) : Calls Tryz.prog 86 #[.int .i64 k] w fun e w' => e = .returned (.int .i64 (tkids k)) ∧ w' = w := by
  by_cases hk : k < 1 ∨ 7 < k
  · have e : tkids k = -1 := by have := tkids_cases k; omega
    have HE := Lib.hid e
    clear e
    have n1 : (k == 1) = false := beq_eq_false_iff_ne.2 (by omega)
    have n2 : (k == 2) = false := beq_eq_false_iff_ne.2 (by omega)
    have n3 : (k == 3) = false := beq_eq_false_iff_ne.2 (by omega)
    have n4 : (k == 4) = false := beq_eq_false_iff_ne.2 (by omega)
    have n5 : (k == 5) = false := beq_eq_false_iff_ne.2 (by omega)
    have n6 : (k == 6) = false := beq_eq_false_iff_ne.2 (by omega)
    have n7 : (k == 7) = false := beq_eq_false_iff_ne.2 (by omega)
    clear hk
    go_enter Tryz.func86, Tryz.ntmps86
    go_wp2
    go_ret
    exact ⟨by rw [HE.out]; rfl, rfl⟩
  · have h6 : k = 1 ∨ k = 2 ∨ k = 3 ∨ k = 4 ∨ k = 5 ∨ k = 6 ∨ k = 7 := by omega
    clear hk
    rcases h6 with rfl | rfl | rfl | rfl | rfl | rfl | rfl
    all_goals
      go_enter Tryz.func86, Tryz.ntmps86
      go_wp2
      go_ret
      exact ⟨rfl, rfl⟩
theorem bindK_1 {k : Int} {i : Nat} (h : (k = 5 ∨ k = 6) ∧ i = 1 ∨ k = 7 ∧ i = 2) : bindK k i = 1 := if_pos h
theorem bindK_0 {k : Int} {i : Nat} (h : ¬ ((k = 5 ∨ k = 6) ∧ i = 1 ∨ k = 7 ∧ i = 2)) : bindK k i = 0 := if_neg h
set_option maxHeartbeats 1000000 in
theorem r13binds_any (k : Int) (i : Nat) (w : World) : Calls Tryz.prog 88 #[.int .i64 k, .int .i64 i] w fun e w' => e = .returned (.int .i64 (bindK k i)) ∧ w' = w := by
  obtain ⟨j, hj⟩ : ∃ j : Int, (i : Int) = j := ⟨_, rfl⟩
  rw [hj]
  by_cases h5 : k = 5
  · by_cases h1 : i = 1
    · rw [bindK_1 (.inl ⟨.inl h5, h1⟩)]
      obtain rfl : j = 1 := by omega
      subst h5
      clear h1 hj
      go_enter Tryz.func88, Tryz.ntmps88
      go_wp2
      go_ret
      exact ⟨rfl, rfl⟩
    · rw [bindK_0 (by omega)]
      have n1 : (j == 1) = false := beq_eq_false_iff_ne.2 (by omega)
      subst h5
      clear h1 hj
      go_enter Tryz.func88, Tryz.ntmps88
      go_wp2
      go_ret
      exact ⟨rfl, rfl⟩
  · by_cases h6 : k = 6
    · by_cases h1 : i = 1
      · rw [bindK_1 (.inl ⟨.inr h6, h1⟩)]
        obtain rfl : j = 1 := by omega
        subst h6
        clear h1 hj
        go_enter Tryz.func88, Tryz.ntmps88
        go_wp2
        go_ret
        exact ⟨rfl, rfl⟩
      · rw [bindK_0 (by omega)]
        have n1 : (j == 1) = false := beq_eq_false_iff_ne.2 (by omega)
        subst h6
        clear h1 hj
        go_enter Tryz.func88, Tryz.ntmps88
        go_wp2
        go_ret
        exact ⟨rfl, rfl⟩
    · by_cases h7 : k = 7
      · by_cases h2 : i = 2
        · rw [bindK_1 (.inr ⟨h7, h2⟩)]
          obtain rfl : j = 2 := by omega
          subst h7
          clear h2 hj
          go_enter Tryz.func88, Tryz.ntmps88
          go_wp2
          go_ret
          exact ⟨rfl, rfl⟩
        · rw [bindK_0 (by omega)]
          have n1 : (j == 2) = false := beq_eq_false_iff_ne.2 (by omega)
          subst h7
          clear h2 hj
          go_enter Tryz.func88, Tryz.ntmps88
          go_wp2
          go_ret
          exact ⟨rfl, rfl⟩
      · rw [bindK_0 (by omega)]
        have n5 : (k == 5) = false := beq_eq_false_iff_ne.2 h5
        have n6 : (k == 6) = false := beq_eq_false_iff_ne.2 h6
        have n7 : (k == 7) = false := beq_eq_false_iff_ne.2 h7
        clear h5 h6 h7 hj
        go_enter Tryz.func88, Tryz.ntmps88
        go_wp2
        go_ret
        exact ⟨rfl, rfl⟩
set_option maxRecDepth 100000 in
set_option maxHeartbeats 1000000 in
theorem r13parts_any (s : Nat) : ∀ (f : Ft), f.size < s → ∀ (k n m : Int) (ls : Fo) (la ka : Option Addr) (lc kc B : Nat) (w : World), TlIn w (· < B) f ka kc → B ≤ w.heap.size → 1 ≤ m → m ≤ 2000 →
    Calls Tryz.prog 11 #[.agg #[.int .i64 k, .int .i64 n, .slice la ls.len lc, .slice ka f.len kc], .int .i64 m] w fun e w' => e = .returned (.int .i64 (partsF f m 1)) ∧ Below w.heap.size w w' := by
  induction s with
  | zero => intro f hs; omega
  | succ s ih =>
    intro f hs k n m ls la ka lc kc B w hsl hB h1 h2
    have IH := Lib.hid ih
    clear ih
    have hlen := hsl.len
    go_enter Tryz.func11, Tryz.ntmps11
    go_wp2_with fail
    go_loopw [5, 6] (fun mm i wr => ∃ (j : Nat) (r : Ft) (q : Int), i = .int .i64 j ∧ mm = .int .i64 q ∧ 1 ≤ q ∧ q ≤ m ∧ Hid (j + r.len = f.len) ∧ Hid (r.size ≤ f.size) ∧
        Hid (∀ b o, ka = some ⟨b, o, none⟩ → FtIn w (· < B) r b (o + j * 4)) ∧ Hid (partsF r m q = partsF f m 1) ∧ Below (w.heap.size + 1) (w.alloc (.cells #[.int .i64 k, .int .i64 n, .slice la ls.len lc, .slice ka f.len kc] 30)) wr)
      (fun _ i _ => f.len - (intOf i).toNat)
    case atStart => exact ⟨0, f, 1, rfl, rfl, by omega, by omega, Lib.hid (by omega), Lib.hid (Nat.le_refl _), Lib.hid (by rintro b o rfl; simpa using hsl.ftIn), Lib.hid rfl, Below.refl _ _⟩
    case round =>
      obtain ⟨j, r, q, rfl, rfl, hq0, hq1, hj, hrs, hin, hfew, hb⟩ := hrel
      have c3 := bcell hb w.heap.size 3 (by omega)
      simp at c3
      have hwB : Below B w wr := ((Below.refl B w).alloc hB _).trans (hb.mono (by omega))
      cases r with
      | nil =>
        have hlt : ¬ (j : Int) < (f.len : Int) := by have := hj.out; simp [Ft.len] at this; omega
        have d : decide ((j : Int) < (f.len : Int)) = false := by simpa using hlt
        go_wp2_with fail
        go_ret
        exact ⟨by rw [← hfew.out]; rfl, Below.trans ((Below.refl _ _).alloc (Nat.le_refl _) _) (hb.mono (by omega))⟩
      | cons k' n' ls' ks r' =>
        have hlt : j < f.len := by have := hj.out; simp [Ft.len] at this; omega
        by_cases hq : q < m
        · obtain ⟨b, o, rfl, hbB, hf0⟩ := hsl.some (by omega)
          obtain ⟨e0, e1, ⟨la', lc', e2, _⟩, ⟨a', cap', e3, hsl'⟩, hrest⟩ := (hin.out b o rfl).below hwB _ _ _ hbB |>.first
          have hks : ks.size < s := by have := hrs.out; simp [Ft.size] at this; omega
          have HG := Lib.hid (partsF_go k' n' ls' ks r' hq)
          have hv := partsF_eq ks (m - q) 1 (by omega) (by omega)
          have hv1 : 1 ≤ partsF ks (m - q) 1 := by omega
          have hv2 : q + partsF ks (m - q) 1 ≤ m := by omega
          clear hv
          go_wp2_with fail
          refine (IH.out ks hks _ _ _ ls' _ _ _ _ B _ hsl' (Nat.le_trans hB hwB.size) (by omega) (by omega)).mono ?_
          rintro e w2 ⟨rfl, hb2⟩
          have hb' := Below.step hb hb2 (by simp)
          go_wp2_with fail
          go_roundw
          case rel => exact ⟨j + 1, r', _, by go_num, rfl, by omega, by omega, Lib.hid (by have := hj.out; simp [Ft.len] at this; omega), Lib.hid (by have := hrs.out; simp [Ft.size] at this; omega), Lib.hid (by rintro b' o' h; cases h; have := (hin.out b o rfl).2.2.2.2; rwa [show o + (j + 1) * 4 = o + j * 4 + 4 by omega]), Lib.hid (by rw [← hfew.out, HG.out]), hb'⟩
          case measure => simp [intOf]; omega
        · have HE := Lib.hid (partsF_stop k' n' ls' ks r' hq)
          have d : decide (q < m) = false := by simpa using hq
          have d' : decide ((j : Int) < (f.len : Int)) = true := by simp; omega
          go_wp2_with fail
          go_ret
          exact ⟨by rw [← hfew.out, HE.out]; rfl, Below.trans ((Below.refl _ _).alloc (Nat.le_refl _) _) (hb.mono (by omega))⟩
end Go.Proofs.YtnfhpombnbpdcaaGreat
namespace Go.Proofs.YtnfhpombnbpdcaaGreat
open Go.RowKit
end Go.Proofs.YtnfhpombnbpdcaaGreat
namespace Go.Proofs.YtnfhpombnbpdcaaGreat
open Go.RowKit
theorem rqHeld2 {W w' : World} {N b i : Nat} {x0 x3 y0 y1 y2 y3 z0 z1 z2 z3 : Value} (h : ∀ q, q ≤ N + 1 → w'.heap[q]? = W.heap[q]?) (hb : b ≤ N) (q0 : W.cell? ⟨N, 0, none⟩ = some x0) (q3 : W.cell? ⟨N, 3, none⟩ = some x3) (e0 : W.cell? ⟨b, i, none⟩ = some y0) (e1 : W.cell? ⟨b, i + 1, none⟩ = some y1) (e2 : W.cell? ⟨b, i + 2, none⟩ = some y2) (e3 : W.cell? ⟨b, i + 3, none⟩ = some y3)
    (d0 : W.cell? ⟨N + 1, 0, none⟩ = some z0) (d1 : W.cell? ⟨N + 1, 1, none⟩ = some z1) (d2 : W.cell? ⟨N + 1, 2, none⟩ = some z2) (d3 : W.cell? ⟨N + 1, 3, none⟩ = some z3) :
    w'.cell? ⟨N, 0, none⟩ = some x0 ∧ w'.cell? ⟨N, 3, none⟩ = some x3 ∧ w'.cell? ⟨b, i, none⟩ = some y0 ∧ w'.cell? ⟨b, i + 1, none⟩ = some y1 ∧ w'.cell? ⟨b, i + 2, none⟩ = some y2 ∧ w'.cell? ⟨b, i + 3, none⟩ = some y3 ∧
    w'.cell? ⟨N + 1, 0, none⟩ = some z0 ∧ w'.cell? ⟨N + 1, 1, none⟩ = some z1 ∧ w'.cell? ⟨N + 1, 2, none⟩ = some z2 ∧ w'.cell? ⟨N + 1, 3, none⟩ = some z3 := by
  have g : ∀ q, q ≤ N → w'.heap[q]? = W.heap[q]? := fun q hq => h q (by omega)
  have k := h (N + 1) (Nat.le_refl _)
  exact ⟨(World.cell?_of_block (a := ⟨N, 0, none⟩) (g _ (Nat.le_refl _))).trans q0, (World.cell?_of_block (a := ⟨N, 3, none⟩) (g _ (Nat.le_refl _))).trans q3, (World.cell?_of_block (a := ⟨b, i, none⟩) (g _ hb)).trans e0, (World.cell?_of_block (a := ⟨b, i + 1, none⟩) (g _ hb)).trans e1, (World.cell?_of_block (a := ⟨b, i + 2, none⟩) (g _ hb)).trans e2, (World.cell?_of_block (a := ⟨b, i + 3, none⟩) (g _ hb)).trans e3,
    (World.cell?_of_block (a := ⟨N + 1, 0, none⟩) k).trans d0, (World.cell?_of_block (a := ⟨N + 1, 1, none⟩) k).trans d1, (World.cell?_of_block (a := ⟨N + 1, 2, none⟩) k).trans d2, (World.cell?_of_block (a := ⟨N + 1, 3, none⟩) k).trans d3⟩
end Go.Proofs.YtnfhpombnbpdcaaGreat
namespace Go.Proofs.YtnfhpombnbpdcaaGreat
open Go.RowKit
theorem namedB_lv {p m v k n : Int} {ls : Fo} (h : lvB p m ls = false) : namedB p m v k n ls = false := by unfold namedB; rw [h]; rfl
theorem namedB_ok {p m v k n : Int} {ls : Fo} (h : lvB p m ls = true) : namedB p m v k n ls = (if k = 1 then decide (0 ≤ n) && (decide (n < v) && decide (ls.len = 0)) else if k = 2 then decide (n = 0) && decide (ls.len = 1) else if k = 3 then decide (0 ≤ n) && (decide (n < 20) && decide (ls.len ≤ 5)) else decide (n = 0) && decide (ls.len = 0)) := by unfold namedB; rw [h]; rfl
set_option maxRecDepth 100000 in
set_option maxHeartbeats 4000000 in
theorem r13named_any (p m v k n : Int) (ls : Fo) (la ka : Option Addr) (klen lc kc B : Nat) (w : World) (hsl : SlIn w (· < B) ls la lc) (hB : B ≤ w.heap.size) :
    Calls Tryz.prog 87 #[.agg #[.int .i64 k, .int .i64 n, .slice la ls.len lc, .slice ka klen kc], .int .i64 v, .int .i64 p, .int .i64 m] w fun e w' => e = .returned (.bool (namedB p m v k n ls)) ∧ Below w.heap.size w w' := by
  have hlen := hsl.len
  have HSL := Lib.hid hsl
  have HB := Lib.hid hB
  clear hsl hB
  have HN0 : Hid (lvB p m ls = true → namedB p m v k n ls = (if k = 1 then decide (0 ≤ n) && (decide (n < v) && decide (ls.len = 0)) else if k = 2 then decide (n = 0) && decide (ls.len = 1) else if k = 3 then decide (0 ≤ n) && (decide (n < 20) && decide (ls.len ≤ 5)) else decide (n = 0) && decide (ls.len = 0))) := Lib.hid namedB_ok
  have HN1 : Hid (lvB p m ls = false → namedB p m v k n ls = false) := Lib.hid namedB_lv
  generalize namedB p m v k n ls = res at HN0 HN1
  go_enter Tryz.func87, Tryz.ntmps87
  go_wp2_with fail
  go_loopw [9] (fun i wr => ∃ (j : Nat) (rr : Fo), i = .int .i64 j ∧ Hid (j + rr.len = ls.len) ∧ Hid (∀ b o, la = some ⟨b, o, none⟩ → FoIn w (· < B) rr b (o + j * 3)) ∧ Hid (lvB p m rr = lvB p m ls) ∧ Hid (Below (w.heap.size + 1) (w.alloc (.cells #[.int .i64 k, .int .i64 n, .slice la ls.len lc, .slice ka klen kc] 30)) wr)) (fun i _ => ls.len - (intOf i).toNat)
  case atStart => exact ⟨0, ls, rfl, Lib.hid (by omega), Lib.hid (by rintro b o rfl; simpa using HSL.out.foIn), Lib.hid rfl, Lib.hid (Below.refl _ _)⟩
  case round =>
    obtain ⟨j, rr, rfl, hj, hin, hall, hb⟩ := hrel
    have c0 := bcell hb.out w.heap.size 0 (by omega)
    have c1 := bcell hb.out w.heap.size 1 (by omega)
    have c2 := bcell hb.out w.heap.size 2 (by omega)
    simp at c0 c1 c2
    have hwW : Hid (Below w.heap.size w wr) := Lib.hid (Below.trans ((Below.refl _ _).alloc (Nat.le_refl _) _) (hb.out.mono (by omega)))
    cases rr with
    | nil =>
      have hlt : ¬ (j : Int) < (ls.len : Int) := by have := hj.out; simp [Fo.len] at this; omega
      have d' : decide ((j : Int) < (ls.len : Int)) = false := by simpa using hlt
      have HN := Lib.hid (HN0.out (show lvB p m ls = true from hall.out.symm))
      clear hall hin hj HN0 HN1
      by_cases k1 : k = 1
      · subst k1
        by_cases h0 : 0 ≤ n
        · have e0 : decide (0 ≤ n) = true := decide_eq_true h0
          by_cases h1 : n < v
          · have e1 : decide (n < v) = true := decide_eq_true h1
            by_cases h2 : ls.len = 0
            · have e2 : ((ls.len : Int) == 0) = true := beq_iff_eq.2 (by omega); have H2 := Lib.hid h2; clear h2
              go_wp2_with fail
              go_ret
              exact ⟨by rw [HN.out, if_pos trivial, e0, e1, decide_eq_true H2.out]; rfl, hwW.out⟩
            · have e2 : ((ls.len : Int) == 0) = false := beq_eq_false_iff_ne.2 (by omega); have H2 := Lib.hid h2; clear h2
              go_wp2_with fail
              go_ret
              exact ⟨by rw [HN.out, if_pos trivial, e0, e1, decide_eq_false H2.out]; rfl, hwW.out⟩
          · have e1 : decide (n < v) = false := decide_eq_false h1
            go_wp2_with fail
            go_ret
            exact ⟨by rw [HN.out, if_pos trivial, e0, e1]; rfl, hwW.out⟩
        · have e0 : decide (0 ≤ n) = false := decide_eq_false h0
          go_wp2_with fail
          go_ret
          exact ⟨by rw [HN.out, if_pos trivial, e0]; rfl, hwW.out⟩
      · have x1 : (k == 1) = false := beq_eq_false_iff_ne.2 k1
        by_cases k2 : k = 2
        · subst k2
          by_cases h0 : n = 0
          · have e0 : (n == 0) = true := beq_iff_eq.2 h0; have H0 := Lib.hid h0; clear h0
            by_cases h2 : ls.len = 1
            · have e2 : ((ls.len : Int) == 1) = true := beq_iff_eq.2 (by omega); have H2 := Lib.hid h2; clear h2
              go_wp2_with fail
              go_ret
              exact ⟨by rw [HN.out, if_neg (by decide), if_pos trivial, decide_eq_true H0.out, decide_eq_true H2.out]; rfl, hwW.out⟩
            · have e2 : ((ls.len : Int) == 1) = false := beq_eq_false_iff_ne.2 (by omega); have H2 := Lib.hid h2; clear h2
              go_wp2_with fail
              go_ret
              exact ⟨by rw [HN.out, if_neg (by decide), if_pos trivial, decide_eq_true H0.out, decide_eq_false H2.out]; rfl, hwW.out⟩
          · have e0 : (n == 0) = false := beq_eq_false_iff_ne.2 h0; have H0 := Lib.hid h0; clear h0
            go_wp2_with fail
            go_ret
            exact ⟨by rw [HN.out, if_neg (by decide), if_pos trivial, decide_eq_false H0.out]; rfl, hwW.out⟩
        · have x2 : (k == 2) = false := beq_eq_false_iff_ne.2 k2
          by_cases k3 : k = 3
          · subst k3
            by_cases h0 : 0 ≤ n
            · have e0 : decide (0 ≤ n) = true := decide_eq_true h0
              by_cases h1 : n < 20
              · have e1 : decide (n < 20) = true := decide_eq_true h1
                by_cases h2 : ls.len ≤ 5
                · have e2 : decide ((ls.len : Int) ≤ 5) = true := decide_eq_true (by omega); have H2 := Lib.hid h2; clear h2
                  go_wp2_with fail
                  go_ret
                  exact ⟨by rw [HN.out, if_neg (by decide), if_neg (by decide), if_pos trivial, e0, e1, decide_eq_true H2.out]; rfl, hwW.out⟩
                · have e2 : decide ((ls.len : Int) ≤ 5) = false := decide_eq_false (by omega); have H2 := Lib.hid h2; clear h2
                  go_wp2_with fail
                  go_ret
                  exact ⟨by rw [HN.out, if_neg (by decide), if_neg (by decide), if_pos trivial, e0, e1, decide_eq_false H2.out]; rfl, hwW.out⟩
              · have e1 : decide (n < 20) = false := decide_eq_false h1
                go_wp2_with fail
                go_ret
                exact ⟨by rw [HN.out, if_neg (by decide), if_neg (by decide), if_pos trivial, e0, e1]; rfl, hwW.out⟩
            · have e0 : decide (0 ≤ n) = false := decide_eq_false h0
              go_wp2_with fail
              go_ret
              exact ⟨by rw [HN.out, if_neg (by decide), if_neg (by decide), if_pos trivial, e0]; rfl, hwW.out⟩
          · have x3 : (k == 3) = false := beq_eq_false_iff_ne.2 k3
            have HNN : Hid (res = (decide (n = 0) && decide (ls.len = 0))) := Lib.hid (by rw [HN.out, if_neg k1, if_neg k2, if_neg k3])
            clear HN k1 k2 k3
            by_cases h0 : n = 0
            · have e0 : (n == 0) = true := beq_iff_eq.2 h0; have H0 := Lib.hid h0; clear h0
              by_cases h2 : ls.len = 0
              · have e2 : ((ls.len : Int) == 0) = true := beq_iff_eq.2 (by omega); have H2 := Lib.hid h2; clear h2
                go_wp2_with fail
                go_ret
                exact ⟨by rw [HNN.out, decide_eq_true H0.out, decide_eq_true H2.out]; rfl, hwW.out⟩
              · have e2 : ((ls.len : Int) == 0) = false := beq_eq_false_iff_ne.2 (by omega); have H2 := Lib.hid h2; clear h2
                go_wp2_with fail
                go_ret
                exact ⟨by rw [HNN.out, decide_eq_true H0.out, decide_eq_false H2.out]; rfl, hwW.out⟩
            · have e0 : (n == 0) = false := beq_eq_false_iff_ne.2 h0; have H0 := Lib.hid h0; clear h0
              go_wp2_with fail
              go_ret
              exact ⟨by rw [HNN.out, decide_eq_false H0.out]; rfl, hwW.out⟩
    | cons k' n' ks r' =>
      have hlt : j < ls.len := by have := hj.out; simp [Fo.len] at this; omega
      have hlt' : (j : Int) < (ls.len : Int) := by omega
      have hwB : Below B w wr := hwW.out.mono HB.out
      obtain ⟨b, o, rfl, hbB, hf0⟩ := HSL.out.some (by omega)
      obtain ⟨e0, e1, ⟨a', cap', e2, hsl'⟩, hrest⟩ := (hin.out b o rfl).below hwB _ _ _ hbB |>.first
      have hHC : Hid (lvB p m (.cons k' n' ks r') = (rightB p m k' n' ks && lvB p m r')) := Lib.hid rfl
      have HC := Lib.hid (rRight_any p m k' n' ks a' cap' B wr hsl' (Nat.le_trans HB.out hwW.out.size))
      generalize rightB p m k' n' ks = vv at HC hHC
      clear hsl' hf0 hrest
      go_wp2_with fail
      refine HC.out.mono ?_
      rintro e w2 ⟨rfl, hb2⟩
      have hb' := Lib.hid (Below.step hb.out hb2 (by simp))
      have hE := Lib.hid (hwW.out.trans (hb2.mono hwW.out.size))
      clear hb2
      cases vv with
      | true =>
        go_wp2_with fail
        go_roundw
        case rel => exact ⟨j + 1, r', by go_num, Lib.hid (by have := hj.out; simp [Fo.len] at this; omega), Lib.hid (by rintro b' o' h; cases h; have := (hin.out b o rfl).2.2.2; rwa [show o + (j + 1) * 3 = o + j * 3 + 3 by omega]), Lib.hid (by rw [← hall.out, hHC.out]; rfl), hb'⟩
        case measure => simp [intOf]; omega
      | false =>
        go_wp2_with fail
        go_ret
        exact ⟨by rw [HN1.out (by rw [← hall.out, hHC.out]; rfl)]; rfl, hE.out⟩
end Go.Proofs.YtnfhpombnbpdcaaGreat
namespace Go.Proofs.YtnfhpombnbpdcaaGreat
open Go.RowKit
theorem rrHeld {B : Nat} {W w' : World} {N : Nat} {x0 x1 x2 x3 : Value} (h : Below B W w') (hN : N < B) (q0 : W.cell? ⟨N, 0, none⟩ = some x0) (q1 : W.cell? ⟨N, 1, none⟩ = some x1) (q2 : W.cell? ⟨N, 2, none⟩ = some x2) (q3 : W.cell? ⟨N, 3, none⟩ = some x3) :
    Hid (Below B W w') ∧ w'.cell? ⟨N, 0, none⟩ = some x0 ∧ w'.cell? ⟨N, 1, none⟩ = some x1 ∧ w'.cell? ⟨N, 2, none⟩ = some x2 ∧ w'.cell? ⟨N, 3, none⟩ = some x3 :=
  ⟨Lib.hid h, (bcell h _ _ hN).trans q0, (bcell h _ _ hN).trans q1, (bcell h _ _ hN).trans q2, (bcell h _ _ hN).trans q3⟩
theorem rrHeld2 {B : Nat} {W w' : World} {N b i : Nat} {x0 x3 y0 y1 y2 y3 : Value} (h : Below B W w') (hN : N < B) (hb : b < B) (q0 : W.cell? ⟨N, 0, none⟩ = some x0) (q3 : W.cell? ⟨N, 3, none⟩ = some x3) (e0 : W.cell? ⟨b, i, none⟩ = some y0) (e1 : W.cell? ⟨b, i + 1, none⟩ = some y1) (e2 : W.cell? ⟨b, i + 2, none⟩ = some y2) (e3 : W.cell? ⟨b, i + 3, none⟩ = some y3) :
    Hid (Below B W w') ∧ w'.cell? ⟨N, 0, none⟩ = some x0 ∧ w'.cell? ⟨N, 3, none⟩ = some x3 ∧ w'.cell? ⟨b, i, none⟩ = some y0 ∧ w'.cell? ⟨b, i + 1, none⟩ = some y1 ∧ w'.cell? ⟨b, i + 2, none⟩ = some y2 ∧ w'.cell? ⟨b, i + 3, none⟩ = some y3 :=
  ⟨Lib.hid h, (bcell h _ _ hN).trans q0, (bcell h _ _ hN).trans q3, (bcell h _ _ hb).trans e0, (bcell h _ _ hb).trans e1, (bcell h _ _ hb).trans e2, (bcell h _ _ hb).trans e3⟩
theorem tOne_low (p m v : Int) {d : Int} (k n : Int) (ls : Fo) (ks : Ft) (h : d < 1) : tOne p m v d k n ls ks = false := by unfold tOne; rw [decide_eq_false (by omega)]; rfl
theorem tOne_len (p m v d : Int) {k : Int} (n : Int) (ls : Fo) {ks : Ft} (h : (ks.len : Int) ≠ tkids k) : tOne p m v d k n ls ks = false := by unfold tOne; rw [← named_fits, decide_eq_false h]; simp
theorem tOne_named {p m v d k : Int} {n : Int} {ls : Fo} {ks : Ft} (h0 : ¬ d < 1) (h : (ks.len : Int) = tkids k) {x : Bool} (hx : namedB p m v k n ls = x) : tOne p m v d k n ls ks = (x && tAll p m ks k 0 v (d - 1)) := by
  unfold tOne; rw [← named_fits, decide_eq_true h, hx, decide_eq_true (by omega)]; rfl
set_option maxRecDepth 100000 in
set_option maxHeartbeats 4000000 in
theorem r13right_any (p m : Int) (s : Nat) : ∀ (f : Ft), f.size < s → ∀ (k n v d : Int) (ls : Fo) (la ka : Option Addr) (lc kc B : Nat) (w : World), SlIn w (· < B) ls la lc → TlIn w (· < B) f ka kc → B ≤ w.heap.size → 0 ≤ d → d ≤ 30 → 0 ≤ v → v + d ≤ 2000 →
    Calls Tryz.prog 66 #[.agg #[.int .i64 k, .int .i64 n, .slice la ls.len lc, .slice ka f.len kc], .int .i64 v, .int .i64 p, .int .i64 m, .int .i64 d] w fun e w' => e = .returned (.bool (tOne p m v d k n ls f)) ∧ Below w.heap.size w w' := by
  induction s with
  | zero => intro f hs; omega
  | succ s ih =>
    intro f hs k n v d ls la ka lc kc B w hls hsl hB hd0 hd hv0 hvd
    have IH := Lib.hid ih
    clear ih
    have hlen := hsl.len
    by_cases h1 : d < 1
    · rw [tOne_low p m v k n ls f h1]
      have d1 : decide (d < 1) = true := decide_eq_true h1
      go_enter Tryz.func66, Tryz.ntmps66
      go_wp2_with fail
      go_quiet (fail)
      go_wp2_with fail
      go_ret
      exact ⟨rfl, Below.draws ((Below.refl _ _).alloc (Nat.le_refl _) _) _⟩
    · have d1 : decide (d < 1) = false := decide_eq_false h1
      by_cases h2 : (f.len : Int) = tkids k
      · have HOK := Lib.hid (fun x hx => tOne_named (p := p) (m := m) (v := v) (d := d) (n := n) (ls := ls) h1 h2 (x := x) hx)
        have hb0 : Below w.heap.size w (w.alloc (.cells #[.int .i64 k, .int .i64 n, .slice la ls.len lc, .slice ka f.len kc] 30)).drew := ((Below.refl _ _).alloc (Nat.le_refl _) _).drew
        have HN : Hid (∀ W : World, Below w.heap.size w W → Calls Tryz.prog 87 #[.agg #[.int .i64 k, .int .i64 n, .slice la ls.len lc, .slice ka f.len kc], .int .i64 v, .int .i64 p, .int .i64 m] W fun e w' => e = .returned (.bool (namedB p m v k n ls)) ∧ Below W.heap.size W w') := Lib.hid (by
          intro W h
          exact r13named_any p m v k n ls la ka f.len lc kc B W (hls.below (h.mono hB)) (Nat.le_trans hB h.size))
        generalize namedB p m v k n ls = x at HN HOK
        have HX := Lib.hid (HOK.out x rfl)
        generalize tOne p m v d k n ls f = res at HX
        have dl : ((f.len : Int) != tkids k) = false := by rw [h2]; simp
        have H2 := Lib.hid h2
        have HKI : Hid (∀ W, Calls Tryz.prog 86 #[.int .i64 k] W fun e w' => e = .returned (.int .i64 (tkids k)) ∧ w' = W) := Lib.hid (r13kids_any k)
        obtain ⟨q0, q1, q2, q3⟩ := cells4 (heap_new w (.cells #[.int .i64 k, .int .i64 n, .slice la ls.len lc, .slice ka f.len kc] 30))
        have HB := Lib.hid hb0
        have HLS := Lib.hid hls
        have HSL := Lib.hid hsl
        clear HOK h2 hb0 hls hsl
        go_enter Tryz.func66, Tryz.ntmps66
        go_wp2_with fail
        go_region_held3 (fun w' => Hid (Below (w.heap.size + 1) (w.alloc (.cells #[.int .i64 k, .int .i64 n, .slice la ls.len lc, .slice ka f.len kc] 30)).drew w') ∧ w'.cell? ⟨w.heap.size, 0, none⟩ = some (.int .i64 k) ∧ w'.cell? ⟨w.heap.size, 1, none⟩ = some (.int .i64 n) ∧ w'.cell? ⟨w.heap.size, 2, none⟩ = some (.slice la ls.len lc) ∧ w'.cell? ⟨w.heap.size, 3, none⟩ = some (.slice ka f.len kc))
          (first | exact ⟨Lib.hid (Below.refl _ _), q0, q1, q2, q3⟩ | (go_split_ands; exact rrHeld (Below.step (Hid.out (by assumption)) hbN (by simp)) (Nat.lt_succ_self _) q0 q1 q2 q3) | (go_split_ands; exact rrHeld (Hid.out (by assumption)) (Nat.lt_succ_self _) q0 q1 q2 q3))
          (first | (go_at_call 86; refine (HKI.out _).mono ?_; rintro e wN ⟨rfl, rfl⟩) | (go_at_call 87; go_split_ands; refine (HN.out _ (HB.out.trans (Below.mono (Hid.out (by assumption)) (Nat.le_succ _)))).mono ?_; rintro e wN ⟨rfl, hbN⟩))
        go_split_ands
        have HBN : Hid (Below (w.heap.size + 1) (w.alloc (.cells #[.int .i64 k, .int .i64 n, .slice la ls.len lc, .slice ka f.len kc] 30)).drew wN) := by assumption
        have hEE := Lib.hid (HB.out.trans (Below.mono HBN.out (Nat.le_succ _)))
        clear q0 q1 q2 q3 hbN HN HKI HLS
        cases x with
        | false =>
          go_wp2_with fail
          go_ret
          exact ⟨by rw [HX.out]; rfl, hEE.out⟩
        | true =>
          simp only [Bool.not_true]
          go_wp2_with fail
          go_loopw [11] (fun i wr => ∃ (j : Nat) (r : Ft), i = .int .i64 j ∧ Hid (j + r.len = f.len) ∧ Hid (r.size ≤ f.size) ∧
              Hid (∀ b o, ka = some ⟨b, o, none⟩ → FtIn w (· < B) r b (o + j * 4)) ∧ Hid (tAll p m r k j v (d - 1) = tAll p m f k 0 v (d - 1)) ∧ Hid (Below (w.heap.size + 1) (w.alloc (.cells #[.int .i64 k, .int .i64 n, .slice la ls.len lc, .slice ka f.len kc] 30)) wr))
            (fun i _ => f.len - (intOf i).toNat)
          case atStart => exact ⟨0, f, rfl, Lib.hid (by omega), Lib.hid (Nat.le_refl _), Lib.hid (by rintro b o rfl; simpa using HSL.out.ftIn), Lib.hid rfl, Lib.hid (Below.trans (Below.refl _ _).drew HBN.out)⟩
          case round =>
            obtain ⟨j, r, rfl, hj, hrs, hin, hall, hb⟩ := hrel
            have c0 := bcell hb.out w.heap.size 0 (by omega)
            have c3 := bcell hb.out w.heap.size 3 (by omega)
            simp at c0 c3
            have hwW : Hid (Below w.heap.size w wr) := Lib.hid (Below.trans ((Below.refl _ _).alloc (Nat.le_refl _) _) (hb.out.mono (by omega)))
            cases r with
            | nil =>
              have hlt : ¬ (j : Int) < (f.len : Int) := by have := hj.out; simp [Ft.len] at this; omega
              have d' : decide ((j : Int) < (f.len : Int)) = false := by simpa using hlt
              go_wp2_with fail
              go_ret
              exact ⟨by rw [HX.out, ← hall.out]; rfl, hwW.out⟩
            | cons k' n' ls' ks r' =>
              have hlt : j < f.len := by have := hj.out; simp [Ft.len] at this; omega
              have hlt' : (j : Int) < (f.len : Int) := by omega
              have hwB : Below B w wr := hwW.out.mono hB
              obtain ⟨b, o, rfl, hbB, hf0⟩ := HSL.out.some (by omega)
              obtain ⟨e0, e1, ⟨la', lc', e2, hls'⟩, ⟨ka', kc', e3, hsl'⟩, hrest⟩ := (hin.out b o rfl).below hwB _ _ _ hbB |>.first
              have hks : ks.size < s := by have := hrs.out; simp [Ft.size] at this; omega
              have HC := Lib.hid (tAll_cons p m k' n' ls' ks r' k j v (d - 1))
              have hbind : 0 ≤ bindK k j ∧ bindK k j ≤ 1 := by unfold bindK; split <;> omega
              have HCL : Hid (∀ W : World, Below wr.heap.size wr W → Calls Tryz.prog 66 #[.agg #[.int .i64 k', .int .i64 n', .slice la' ls'.len lc', .slice ka' ks.len kc'], .int .i64 (v + bindK k j), .int .i64 p, .int .i64 m, .int .i64 (d - 1)] W fun e w' => e = .returned (.bool (tOne p m (v + bindK k j) (d - 1) k' n' ls' ks)) ∧ Below W.heap.size W w') := Lib.hid (by
                intro W h
                have h' : Below B wr W := h.mono (Nat.le_trans hB hwW.out.size)
                exact IH.out ks hks k' n' (v + bindK k j) (d - 1) ls' la' ka' lc' kc' B W (hls'.below h') (hsl'.below h') (Nat.le_trans (Nat.le_trans hB hwW.out.size) h.size) (by omega) (by omega) (by omega) (by omega))
              have HBI : Hid (∀ W, Calls Tryz.prog 88 #[.int .i64 k, .int .i64 j] W fun e w' => e = .returned (.int .i64 (bindK k j)) ∧ w' = W) := Lib.hid (r13binds_any k j)
              have HW1 : Hid (IntKind.i64.wrap (v + bindK k j) = v + bindK k j) := Lib.hid (IntWalk.i64_in _ (by omega))
              have HW2 : Hid (IntKind.i64.wrap (d - 1) = d - 1) := Lib.hid (IntWalk.i64_in _ (by omega))
              have hbr : b < wr.heap.size := by have := hwW.out.size; omega
              have hwr1 : w.heap.size < wr.heap.size := by have := hb.out.size; simp at this; omega
              generalize tOne p m (v + bindK k j) (d - 1) k' n' ls' ks = vv at HC HCL
              clear hls' hsl' hf0 hrest hbind
              go_wp2_with fail
              go_region_held3 (fun w' => Hid (Below wr.heap.size wr w') ∧ w'.cell? ⟨w.heap.size, 0, none⟩ = some (.int .i64 k) ∧ w'.cell? ⟨w.heap.size, 3, none⟩ = some (.slice (some ⟨b, o, none⟩) f.len kc) ∧ w'.cell? ⟨b, o + j * 4, none⟩ = some (.int .i64 k') ∧ w'.cell? ⟨b, o + j * 4 + 1, none⟩ = some (.int .i64 n') ∧ w'.cell? ⟨b, o + j * 4 + 2, none⟩ = some (.slice la' ls'.len lc') ∧ w'.cell? ⟨b, o + j * 4 + 3, none⟩ = some (.slice ka' ks.len kc'))
                (first | exact ⟨Lib.hid (Below.refl _ _).drew, c0, c3, e0, e1, e2, e3⟩ | (go_split_ands; exact rrHeld2 (Below.step (Hid.out (by assumption)) hbN (Nat.le_refl _)) hwr1 hbr c0 c3 e0 e1 e2 e3) | (go_split_ands; exact rrHeld2 (Hid.out (by assumption)) hwr1 hbr c0 c3 e0 e1 e2 e3))
                (first | (go_at_call 88; refine (HBI.out _).mono ?_; rintro e wN ⟨rfl, rfl⟩) | (go_at_call 66; go_split_ands; rw [HW1.out, HW2.out]; refine (HCL.out _ (Hid.out (by assumption))).mono ?_; rintro e wN ⟨rfl, hbN⟩))
              go_split_ands
              have hbE := Lib.hid (Below.step hb.out (Hid.out (by assumption : Hid (Below wr.heap.size wr wN))) (by simp))
              have hwE := Lib.hid (hwW.out.trans (Below.mono (Hid.out (by assumption : Hid (Below wr.heap.size wr wN))) hwW.out.size))
              clear c0 c3 e0 e1 e2 e3 HCL HBI HW1 HW2 hbN
              cases vv with
              | true =>
                go_wp2_with fail
                go_roundw
                case rel => exact ⟨j + 1, r', by go_num, Lib.hid (by have := hj.out; simp [Ft.len] at this; omega), Lib.hid (by have := hrs.out; simp [Ft.size] at this; omega), Lib.hid (by rintro b' o' h; cases h; have := (hin.out b o rfl).2.2.2.2; rwa [show o + (j + 1) * 4 = o + j * 4 + 4 by omega]), Lib.hid (by rw [← hall.out, HC.out]; rfl), hbE⟩
                case measure => simp [intOf]; omega
              | false =>
                go_wp2_with fail
                go_ret
                exact ⟨by rw [HX.out, ← hall.out, HC.out]; rfl, hwE.out⟩
      · rw [tOne_len p m v d n ls h2]
        have dl : ((f.len : Int) != tkids k) = true := by rw [bne_iff_ne]; exact h2
        clear h2
        go_enter Tryz.func66, Tryz.ntmps66
        go_wp2_with fail
        go_quiet ((go_at_call 86; exact Calls.quiet_of_same (r13kids_any _ _)))
        go_wp2_with fail
        go_ret
        exact ⟨rfl, Below.draws ((Below.refl _ _).alloc (Nat.le_refl _) _) _⟩
set_option maxRecDepth 100000 in
set_option maxHeartbeats 2000000 in
theorem r13Right_any (p m v k n : Int) (ls : Fo) (f : Ft) (la ka : Option Addr) (lc kc B : Nat) (w : World) (hls : SlIn w (· < B) ls la lc) (hsl : TlIn w (· < B) f ka kc) (hB : B ≤ w.heap.size) :
    Calls Tryz.prog 43 #[.agg #[.int .i64 k, .int .i64 n, .slice la ls.len lc, .slice ka f.len kc], .int .i64 v, .int .i64 p, .int .i64 m] w fun e w' => e = .returned (.bool (tRightB p m v k n ls f)) ∧ Below w.heap.size w w' := by
  have hb : Below w.heap.size w (w.alloc (.cells #[.int .i64 k, .int .i64 n, .slice la ls.len lc, .slice ka f.len kc] 30)) := (Below.refl _ _).alloc (Nat.le_refl _) _
  have HB := Lib.hid hb
  by_cases h1 : 0 ≤ v
  · have d1 : decide (0 ≤ v) = true := decide_eq_true h1
    by_cases h2 : v ≤ 1000
    · have d2 : decide (v ≤ 1000) = true := decide_eq_true h2
      by_cases h3 : 0 ≤ p
      · have d3 : decide (0 ≤ p) = true := decide_eq_true h3
        by_cases h4 : p ≤ 5
        · have d4 : decide (p ≤ 5) = true := decide_eq_true h4
          by_cases h5 : 0 ≤ m
          · have d5 : decide (0 ≤ m) = true := decide_eq_true h5
            by_cases h6 : m ≤ 10
            · have d6 : decide (m ≤ 10) = true := decide_eq_true h6
              have HP := Lib.hid (r13parts_any (f.size + 1) f (Nat.lt_succ_self _) k n 601 ls la ka lc kc B (w.alloc (.cells #[.int .i64 k, .int .i64 n, .slice la ls.len lc, .slice ka f.len kc] 30)) (hsl.below (hb.mono hB)) (by simp; omega) (by omega) (by omega))
              have HR : Hid (∀ W : World, Below w.heap.size w W → Calls Tryz.prog 66 #[.agg #[.int .i64 k, .int .i64 n, .slice la ls.len lc, .slice ka f.len kc], .int .i64 v, .int .i64 p, .int .i64 m, .int .i64 30] W fun e w' => e = .returned (.bool (tOne p m v 30 k n ls f)) ∧ Below W.heap.size W w') := Lib.hid (by
                intro W h
                exact r13right_any p m (f.size + 1) f (Nat.lt_succ_self _) k n v 30 ls la ka lc kc B W (hls.below (h.mono hB)) (hsl.below (h.mono hB)) (Nat.le_trans hB h.size) (by omega) (by omega) (by omega) (by omega))
              have hpp := partsF_eq f 601 1 (by omega) (by omega)
              have hp0 : 1 ≤ partsF f 601 1 := by omega
              have hp1 : partsF f 601 1 ≤ 601 := by omega
              clear hpp hls hsl hb
              by_cases h7 : partsF f 601 1 ≤ 600
              · have HV := Lib.hid (tRightB_yes (p := p) (m := m) (v := v) k n ls (ks := f) ⟨h1, h2, h3, h4, h5, h6⟩ h7)
                generalize tOne p m v 30 k n ls f = y at HR HV
                generalize tRightB p m v k n ls f = res at HV
                generalize partsF f 601 1 = x at HP h7 hp0 hp1
                go_enter Tryz.func43, Tryz.ntmps43
                go_wp2_with fail
                refine HP.out.mono ?_
                rintro e w1 ⟨rfl, hb1⟩
                have hb2 := Lib.hid (Below.step HB.out hb1 (Nat.le_refl _))
                have hb1' : Below (w.heap.size + 1) (w.alloc (.cells #[.int .i64 k, .int .i64 n, .slice la ls.len lc, .slice ka f.len kc] 30)) w1 := by simpa using hb1
                have c0 := bcell hb1' w.heap.size 0 (by omega)
                have c1 := bcell hb1' w.heap.size 1 (by omega)
                have c2 := bcell hb1' w.heap.size 2 (by omega)
                have c3 := bcell hb1' w.heap.size 3 (by omega)
                simp at c0 c1 c2 c3
                clear hb1 hb1'
                go_wp2_with fail
                refine (HR.out _ hb2.out).mono ?_
                rintro e w3 ⟨rfl, hb3⟩
                have HE := Lib.hid (Below.step hb2.out hb3 (Nat.le_refl _))
                clear hb3
                go_wp2_with fail
                go_ret
                exact ⟨by rw [HV.out]; rfl, HE.out⟩
              · have HV := Lib.hid (tRightB_big p m v k n ls h7)
                generalize tRightB p m v k n ls f = res at HV
                generalize partsF f 601 1 = x at HP h7 hp0 hp1
                have d7 : decide (x ≤ 600) = false := decide_eq_false h7
                go_enter Tryz.func43, Tryz.ntmps43
                go_wp2_with fail
                refine HP.out.mono ?_
                rintro e w1 ⟨rfl, hb1⟩
                have hb2 := Lib.hid (Below.step HB.out hb1 (Nat.le_refl _))
                clear hb1
                go_wp2_with fail
                go_ret
                exact ⟨by rw [HV.out]; rfl, hb2.out⟩
            · rw [tRightB_out k n ls f (by omega)]
              have d6 : decide (m ≤ 10) = false := decide_eq_false h6
              go_enter Tryz.func43, Tryz.ntmps43
              go_wp2_with fail
              go_ret
              exact ⟨rfl, HB.out⟩
          · rw [tRightB_out k n ls f (by omega)]
            have d5 : decide (0 ≤ m) = false := decide_eq_false h5
            go_enter Tryz.func43, Tryz.ntmps43
            go_wp2_with fail
            go_ret
            exact ⟨rfl, HB.out⟩
        · rw [tRightB_out k n ls f (by omega)]
          have d4 : decide (p ≤ 5) = false := decide_eq_false h4
          go_enter Tryz.func43, Tryz.ntmps43
          go_wp2_with fail
          go_ret
          exact ⟨rfl, HB.out⟩
      · rw [tRightB_out k n ls f (by omega)]
        have d3 : decide (0 ≤ p) = false := decide_eq_false h3
        go_enter Tryz.func43, Tryz.ntmps43
        go_wp2_with fail
        go_ret
        exact ⟨rfl, HB.out⟩
    · rw [tRightB_out k n ls f (by omega)]
      have d2 : decide (v ≤ 1000) = false := decide_eq_false h2
      go_enter Tryz.func43, Tryz.ntmps43
      go_wp2_with fail
      go_ret
      exact ⟨rfl, HB.out⟩
  · rw [tRightB_out k n ls f (by omega)]
    have d1 : decide (0 ≤ v) = false := decide_eq_false h1
    go_enter Tryz.func43, Tryz.ntmps43
    go_wp2_with fail
    go_ret
    exact ⟨rfl, HB.out⟩
set_option maxRecDepth 100000 in
set_option maxHeartbeats 2000000 in
theorem r13Shape_any (k n : Int) (ls : Fo) (f : Ft) (la ka : Option Addr) (lc kc B : Nat) (w : World) (hls : SlIn w (· < B) ls la lc) (hsl : TlIn w (· < B) f ka kc) (hB : B ≤ w.heap.size) :
    Calls Tryz.prog 30 #[.agg #[.int .i64 k, .int .i64 n, .slice la ls.len lc, .slice ka f.len kc]] w fun e w' => e = .returned (.bool (shB k n ls f)) ∧ Below w.heap.size w w' := by
  have hb : Below w.heap.size w (w.alloc (.cells #[.int .i64 k, .int .i64 n, .slice la ls.len lc, .slice ka f.len kc] 30)) := (Below.refl _ _).alloc (Nat.le_refl _) _
  have HC := Lib.hid (r13Right_any 5 10 1000 k n ls f la ka lc kc B (w.alloc (.cells #[.int .i64 k, .int .i64 n, .slice la ls.len lc, .slice ka f.len kc] 30)) (hls.below (hb.mono hB)) (hsl.below (hb.mono hB)) (by simp; omega))
  have HS : Hid (tRightB 5 10 1000 k n ls f = shB k n ls f) := Lib.hid rfl
  generalize tRightB 5 10 1000 k n ls f = x at HC HS
  clear hls hsl
  go_enter Tryz.func30, Tryz.ntmps30
  go_wp2_with fail
  refine HC.out.mono ?_
  rintro e w2 ⟨rfl, hb2⟩
  go_wp2_with fail
  go_ret
  exact ⟨by rw [HS.out]; rfl, Below.step hb hb2 (Nat.le_refl _)⟩
end Go.Proofs.YtnfhpombnbpdcaaGreat
namespace Go.Proofs.YtnfhpombnbpdcaaGreat
open Go.RowKit
theorem leQ {B Bh a b : Nat} (h : B ≤ a ∧ Bh ≤ a) (hab : a ≤ b) : B ≤ b ∧ Bh ≤ b := ⟨Nat.le_trans h.1 hab, Nat.le_trans h.2 hab⟩
theorem ltQ {B : Nat} {Bl : Nat → Nat} {Bh n b : Nat} (h : B ≤ n ∧ Bh ≤ n) (hb : b < B ∨ (Bl b = 0 ∧ b < Bh)) : b < n := by omega
theorem SlIn.belowQ {w w' : World} {B : Nat} {Bl : Nat → Nat} {Bh n : Nat} {f : Fo} {a : Option Addr} {cap : Nat} (hb : Below n w w') (hB : B ≤ n ∧ Bh ≤ n) (h : SlIn w (fun b => b < B ∨ (Bl b = 0 ∧ b < Bh)) f a cap) : SlIn w' (fun b => b < B ∨ (Bl b = 0 ∧ b < Bh)) f a cap := h.keep (fun b hx => hb.block b (ltQ hB hx))
theorem FoIn.belowQ {w w' : World} {B : Nat} {Bl : Nat → Nat} {Bh n : Nat} (hb : Below n w w') (hB : B ≤ n ∧ Bh ≤ n) (f : Fo) (b o : Nat) (h : b < B ∨ (Bl b = 0 ∧ b < Bh)) (hf : FoIn w (fun b => b < B ∨ (Bl b = 0 ∧ b < Bh)) f b o) : FoIn w' (fun b => b < B ∨ (Bl b = 0 ∧ b < Bh)) f b o := FoIn.keep (fun b hx => hb.block b (ltQ hB hx)) f b o h hf
theorem FtIn.belowQ {w w' : World} {B : Nat} {Bl : Nat → Nat} {Bh n : Nat} (hb : Below n w w') (hB : B ≤ n ∧ Bh ≤ n) (f : Ft) (b o : Nat) (h : b < B ∨ (Bl b = 0 ∧ b < Bh)) (hf : FtIn w (fun b => b < B ∨ (Bl b = 0 ∧ b < Bh)) f b o) : FtIn w' (fun b => b < B ∨ (Bl b = 0 ∧ b < Bh)) f b o := FtIn.keep (fun b hx => hb.block b (ltQ hB hx)) f b o h hf
theorem TlIn.belowQ {w w' : World} {B : Nat} {Bl : Nat → Nat} {Bh n : Nat} {f : Ft} {a : Option Addr} {cap : Nat} (hb : Below n w w') (hB : B ≤ n ∧ Bh ≤ n) (h : TlIn w (fun b => b < B ∨ (Bl b = 0 ∧ b < Bh)) f a cap) : TlIn w' (fun b => b < B ∨ (Bl b = 0 ∧ b < Bh)) f a cap := h.turn (fun b hx => hb.block b (ltQ hB hx)) (fun _ h => h)
theorem SlIn.allQ {w : World} {B : Nat} {Bl : Nat → Nat} {Bh n : Nat} {f : Fo} {a : Option Addr} {cap : Nat} (hB : B ≤ n ∧ Bh ≤ n) (h : SlIn w (fun b => b < B ∨ (Bl b = 0 ∧ b < Bh)) f a cap) : SlIn w (· < n) f a cap := h.weak (fun _ hx => ltQ hB hx)
theorem TlIn.allQ {w : World} {B : Nat} {Bl : Nat → Nat} {Bh n : Nat} {f : Ft} {a : Option Addr} {cap : Nat} (hB : B ≤ n ∧ Bh ≤ n) (h : TlIn w (fun b => b < B ∨ (Bl b = 0 ∧ b < Bh)) f a cap) : TlIn w (· < n) f a cap := h.turn (fun _ _ => rfl) (fun _ hx => ltQ hB hx)
end Go.Proofs.YtnfhpombnbpdcaaGreat
namespace Go.Proofs.YtnfhpombnbpdcaaGreat
open Go.RowKit
def MxQ (B : Nat) (Bl : Nat → Nat) (Bh lo : Nat) (W : World) (v : Value) (b : Nat) : Prop := ((b < B ∨ (Bl b = 0 ∧ b < Bh)) ∨ lo ≤ b) ∧ b < W.heap.size ∧ some b ≠ v.ownBlock
def KsMixQ (B : Nat) (Bl : Nat → Nat) (Bh lo : Nat) (W : World) (v : Value) (G : Fo) : Prop := ∃ xs, W.ownsRow lo 45 3 v G.len xs ∧ RepP W (MxQ B Bl Bh lo W v) G xs
theorem KsMixQ.nil (B : Nat) (Bl : Nat → Nat) (Bh lo : Nat) (W : World) : KsMixQ B Bl Bh lo W (.slice none 0 0) .nil := ⟨[], World.ownsRow_nil _ _ _ _, rfl⟩
theorem KsMixQ.grow {B : Nat} {Bl : Nat → Nat} {Bh lo : Nat} {W W' : World} {v : Value} {G : Fo} (h : KsMixQ B Bl Bh lo W v G) (hz : W.heap.size ≤ W'.heap.size) (hk : ∀ b, ((b < B ∨ (Bl b = 0 ∧ b < Bh)) ∨ lo ≤ b) → b < W.heap.size → W'.heap[b]? = W.heap[b]?) : KsMixQ B Bl Bh lo W' v G := by
  obtain ⟨xs, h1, h2⟩ := h
  refine ⟨xs, ?_, h2.keep (fun b hb => hk b hb.1 hb.2.1) (fun b hb => ⟨hb.1, Nat.lt_of_lt_of_le hb.2.1 hz, hb.2.2⟩)⟩
  refine ⟨h1.1, ?_⟩
  rcases h1.2 with hn | ⟨g, cap, cur, e, hb, hh, rest⟩
  · exact .inl hn
  · exact .inr ⟨g, cap, cur, e, hb, (hk g (.inr hb) (lt_of_block hh)).trans hh, rest⟩
theorem KsMixQ.grown {B : Nat} {Bl : Nat → Nat} {Bh lo R : Nat} {W W' : World} {v : Value} {G : Fo} (h : KsMixQ B Bl Bh lo W v G) (hg : W.grownBy W' (some R)) (hB : (B ≤ R ∧ Bh ≤ R)) (hR : R < lo) : KsMixQ B Bl Bh lo W' v G := h.grow hg.size (fun b h1 h2 => Only.block hg h2 (by omega))
theorem KsMixQ.setLow {B : Nat} {Bl : Nat → Nat} {Bh lo : Nat} {W : World} {v : Value} {G : Fo} (h : KsMixQ B Bl Bh lo W v G) {b : Nat} (hB : (B ≤ b ∧ Bh ≤ b)) (hb : b < lo) (i : Nat) (u : Value) : KsMixQ B Bl Bh lo (W.setCell ⟨b, i, none⟩ u) v G := h.grown (Only.set W b i u) hB hb
theorem KsMixQ.later {B : Nat} {Bl : Nat → Nat} {Bh lo : Nat} {W W' : World} {v : Value} {G : Fo} (h : KsMixQ B Bl Bh lo W v G) (hb : Below W.heap.size W W') : KsMixQ B Bl Bh lo W' v G := h.grow hb.size (fun b _ h2 => hb.block b h2)
theorem KsMixQ.lt {B : Nat} {Bl : Nat → Nat} {Bh lo : Nat} {W : World} {v : Value} {G : Fo} (h : KsMixQ B Bl Bh lo W v G) : ∀ g, v.ownBlock = some g → lo ≤ g ∧ g < W.heap.size := by
  obtain ⟨xs, h1, _⟩ := h
  exact h1.lt
theorem KsMixQ.fresh {B : Nat} {Bl : Nat → Nat} {Bh lo : Nat} {W W' : World} {v : Value} {G F : Fo} {x : Option Addr} {c : Nat} (h : KsMixQ B Bl Bh lo W v G) (hlo : lo ≤ W.heap.size) (hB : (B ≤ lo ∧ Bh ≤ lo)) (hs : SlIn W' (fun b => ((b < B ∨ (Bl b = 0 ∧ b < Bh)) ∨ W.heap.size ≤ b) ∧ b < W'.heap.size) F x c) : SlIn W' (MxQ B Bl Bh lo W' v) F x c :=
  hs.weak (fun b hb => ⟨by omega, hb.2, fun e => by have := h.lt b e.symm; omega⟩)
theorem KsMixQ.append {B : Nat} {Bl : Nat → Nat} {Bh lo : Nat} {W : World} {v : Value} {G F : Fo} {x : Option Addr} {c : Nat} (h : KsMixQ B Bl Bh lo W v G) (k n : Int) (hs : SlIn W (MxQ B Bl Bh lo W v) F x c) (ty : TypeId) (hG : G.len ≤ 1000) (hlo : 1 ≤ lo) (hW : lo ≤ W.heap.size) :
    ∃ g' cap' w3, (Builtin.append_ #[27, 27] ty #[v, .slice (some ⟨W.heap.size, 0, none⟩) 1 1]).run Tryz.prog (W.alloc (.cells #[.int .i64 k, .int .i64 n, .slice x F.len c] 45)) = .ok (.slice (some ⟨g', 0, none⟩) (G.len + 1) cap') w3 ∧
      KsMixQ B Bl Bh lo w3 (.slice (some ⟨g', 0, none⟩) (G.len + 1) cap') (G.app (.cons k n F .nil)) ∧ (∀ b, b < W.heap.size → some b ≠ v.ownBlock → w3.heap[b]? = W.heap[b]?) ∧ W.heap.size + 1 ≤ w3.heap.size ∧ w3.os = W.os ∧ w3.tape = W.tape ∧ w3.output = W.output := by
  obtain ⟨xs, h1, h2⟩ := h
  have hl : lo = (lo - 1) + 1 := by omega
  rw [hl] at h1
  obtain ⟨v', w3, hrun, a1, a2, a3⟩ := append_kid ty h1 hG (by omega) k n x F.len c
  obtain ⟨g', cap', rfl⟩ := ownsRow_succ a1
  rw [← hl] at a1 h1
  have z2 := a2.size
  rw [World.size_alloc] at z2
  have same : ∀ b, b < W.heap.size → some b ≠ v.ownBlock → w3.heap[b]? = W.heap[b]? := fun b hb hn => (a2.block b (by rw [World.size_alloc]; omega) hn).trans (heap_old _ _ hb)
  have hnew : ∀ b, b < W.heap.size → some b ≠ v.ownBlock → some b ≠ (Value.slice (some ⟨g', 0, none⟩) (G.len + 1) cap').ownBlock := fun b hb hn => by
    rcases a3 with a3 | a3
    · rw [a3]; exact hn
    · rw [a3]; intro e; injection e with e; omega
  refine ⟨g', cap', w3, hrun, ⟨xs ++ [.int .i64 k, .int .i64 n, .slice x F.len c], ?_, ?_⟩, same, z2, a2.os, a2.tape, a2.output⟩
  · rw [Fo.app_len]; exact a1
  · refine RepP.snoc ?_ (h2.keep (fun b hb => same b hb.2.1 hb.2.2) (fun b hb => ⟨hb.1, by have := hb.2.1; omega, hnew b hb.2.1 hb.2.2⟩))
    exact (hs.keep (fun b hb => same b hb.2.1 hb.2.2)).weak (fun b hb => ⟨hb.1, by have := hb.2.1; omega, hnew b hb.2.1 hb.2.2⟩)
theorem KsMixQ.slice {B : Nat} {Bl : Nat → Nat} {Bh lo : Nat} {W : World} {v : Value} {G : Fo} (h : KsMixQ B Bl Bh lo W v G) : ∃ x c, v = .slice x G.len c ∧ SlIn W (fun b => ((b < B ∨ (Bl b = 0 ∧ b < Bh)) ∨ lo ≤ b) ∧ b < W.heap.size) G x c := by
  obtain ⟨xs, h1, h2⟩ := h
  exact RepP.slice h1 (h2.keep (fun _ _ => rfl) (fun b hb => ⟨hb.1, hb.2.1⟩)) rfl (fun g hg => ⟨.inr (h1.lt g hg).1, (h1.lt g hg).2⟩)
def RpPostQ (B : Nat) (Bl : Nat → Nat) (Bh : Nat) (T : Fo) (w : World) (e : Ending) (w' : World) : Prop :=
  ∃ (k n : Int) (F : Fo) (x : Option Addr) (c : Nat), T = .cons k n F .nil ∧ e = .returned (.agg #[.int .i64 k, .int .i64 n, .slice x F.len c]) ∧ SlIn w' (fun b => ((b < B ∨ (Bl b = 0 ∧ b < Bh)) ∨ w.heap.size ≤ b) ∧ b < w'.heap.size) F x c ∧ Below w.heap.size w w'
def RpRQ (w : World) (OB B : Nat) (Bl : Nat → Nat) (Bh : Nat) (k n : Int) (G : Fo) (v : Value) (wr : World) : Prop :=
  wr.heap[w.heap.size + 1]? = some (.cells #[.int .i64 0, .int .i64 0, .slice none 0 0] 45 (0, 0)) ∧ wr.heap[OB]? = some (.cells #[.int .i64 k, .int .i64 n, v] 45 (0, 0)) ∧ KsMixQ B Bl Bh (OB + 1) wr v G ∧ w.heap.size + 1 < OB ∧ (B ≤ w.heap.size ∧ Bh ≤ w.heap.size) ∧ Below w.heap.size w wr
theorem RpRQ.facts {w : World} {OB B : Nat} {Bl : Nat → Nat} {Bh : Nat} {k n : Int} {G : Fo} {v : Value} {wr : World} (h : RpRQ w OB B Bl Bh k n G v wr) :
    wr.cell? ⟨w.heap.size + 1, 0, none⟩ = some (.int .i64 0) ∧ wr.cell? ⟨w.heap.size + 1, 1, none⟩ = some (.int .i64 0) ∧ wr.cell? ⟨w.heap.size + 1, 2, none⟩ = some (.slice none 0 0) ∧ (∀ o, wr.frozen? ⟨w.heap.size + 1, o, none⟩ = false) ∧
    wr.cell? ⟨OB, 0, none⟩ = some (.int .i64 k) ∧ wr.cell? ⟨OB, 1, none⟩ = some (.int .i64 n) ∧ wr.cell? ⟨OB, 2, none⟩ = some v ∧ (∀ o, wr.frozen? ⟨OB, o, none⟩ = false) ∧ OB < wr.heap.size ∧ Below w.heap.size w wr := by
  obtain ⟨h1, h2, _, _, _, h6⟩ := h
  exact ⟨cell_at h1 0, cell_at h1 1, cell_at h1 2, free_of h1, cell_at h2 0, cell_at h2 1, cell_at h2 2, free_of h2, lt_of_block h2, h6⟩
theorem RpRQ.done {w : World} {OB B : Nat} {Bl : Nat → Nat} {Bh : Nat} {k n : Int} {G : Fo} {v : Value} {wr : World} (h : RpRQ w OB B Bl Bh k n G v wr) : ∃ x c, v = .slice x G.len c ∧
    RpPostQ B Bl Bh (.cons k n G .nil) w (.returned (.agg #[.int .i64 k, .int .i64 n, .slice x G.len c])) (((wr.setCell ⟨w.heap.size + 1, 0, none⟩ (.int .i64 k)).setCell ⟨w.heap.size + 1, 1, none⟩ (.int .i64 n)).setCell ⟨w.heap.size + 1, 2, none⟩ (.slice x G.len c)) := by
  obtain ⟨h1, h2, h3, h4, h5, h6⟩ := h
  obtain ⟨x, c, rfl, hsl⟩ := h3.slice
  have hg := set3_only (w := wr) (w.heap.size + 1) (.int .i64 k) (.int .i64 n) (.slice x G.len c)
  refine ⟨x, c, rfl, k, n, G, x, c, rfl, rfl, ?_, ?_⟩
  · exact (hsl.keep (fun b hb => Only.block hg hb.2 (by omega))).weak (fun b hb => ⟨by omega, Nat.lt_of_lt_of_le hb.2 hg.size⟩)
  · exact ⟨hg.os.trans h6.os, hg.tape.trans h6.tape, hg.output.trans h6.output, Nat.le_trans h6.size hg.size, fun q hq => (Only.block hg (by have := h6.size; omega) (by omega)).trans (h6.block q hq)⟩
end Go.Proofs.YtnfhpombnbpdcaaGreat
namespace Go.Proofs.YtnfhpombnbpdcaaGreat
open Go.RowKit
def TsMixQ (B : Nat) (Bl : Nat → Nat) (Bh lo : Nat) (W : World) (v : Value) (G : Ft) : Prop := ∃ xs, W.ownsRow lo 30 4 v G.len xs ∧ RepT W (MxQ B Bl Bh lo W v) G xs
theorem TsMixQ.nil (B : Nat) (Bl : Nat → Nat) (Bh lo : Nat) (W : World) : TsMixQ B Bl Bh lo W (.slice none 0 0) .nil := ⟨[], World.ownsRow_nil _ _ _ _, rfl⟩
theorem TsMixQ.grow {B : Nat} {Bl : Nat → Nat} {Bh lo : Nat} {W W' : World} {v : Value} {G : Ft} (h : TsMixQ B Bl Bh lo W v G) (hz : W.heap.size ≤ W'.heap.size) (hk : ∀ b, ((b < B ∨ (Bl b = 0 ∧ b < Bh)) ∨ lo ≤ b) → b < W.heap.size → W'.heap[b]? = W.heap[b]?) : TsMixQ B Bl Bh lo W' v G := by
  obtain ⟨xs, h1, h2⟩ := h
  refine ⟨xs, ?_, h2.turn (fun b hb => hk b hb.1 hb.2.1) (fun b hb => ⟨hb.1, Nat.lt_of_lt_of_le hb.2.1 hz, hb.2.2⟩)⟩
  refine ⟨h1.1, ?_⟩
  rcases h1.2 with hn | ⟨g, cap, cur, e, hb, hh, rest⟩
  · exact .inl hn
  · exact .inr ⟨g, cap, cur, e, hb, (hk g (.inr hb) (lt_of_block hh)).trans hh, rest⟩
theorem TsMixQ.grown {B : Nat} {Bl : Nat → Nat} {Bh lo R : Nat} {W W' : World} {v : Value} {G : Ft} (h : TsMixQ B Bl Bh lo W v G) (hg : W.grownBy W' (some R)) (hB : (B ≤ R ∧ Bh ≤ R)) (hR : R < lo) : TsMixQ B Bl Bh lo W' v G := h.grow hg.size (fun b h1 h2 => Only.block hg h2 (by omega))
theorem TsMixQ.setLow {B : Nat} {Bl : Nat → Nat} {Bh lo : Nat} {W : World} {v : Value} {G : Ft} (h : TsMixQ B Bl Bh lo W v G) {b : Nat} (hB : (B ≤ b ∧ Bh ≤ b)) (hb : b < lo) (i : Nat) (u : Value) : TsMixQ B Bl Bh lo (W.setCell ⟨b, i, none⟩ u) v G := h.grown (Only.set W b i u) hB hb
theorem TsMixQ.later {B : Nat} {Bl : Nat → Nat} {Bh lo : Nat} {W W' : World} {v : Value} {G : Ft} (h : TsMixQ B Bl Bh lo W v G) (hb : Below W.heap.size W W') : TsMixQ B Bl Bh lo W' v G := h.grow hb.size (fun b _ h2 => hb.block b h2)
theorem TsMixQ.lt {B : Nat} {Bl : Nat → Nat} {Bh lo : Nat} {W : World} {v : Value} {G : Ft} (h : TsMixQ B Bl Bh lo W v G) : ∀ g, v.ownBlock = some g → lo ≤ g ∧ g < W.heap.size := by
  obtain ⟨xs, h1, _⟩ := h
  exact h1.lt
theorem TsMixQ.out {B : Nat} {Bl : Nat → Nat} {Bh lo : Nat} {W W' : World} {v : Value} {G : Ft} (h : TsMixQ B Bl Bh lo W v G) (hlo : lo ≤ W.heap.size) (hB : (B ≤ lo ∧ Bh ≤ lo)) {b : Nat} (hb : ((b < B ∨ (Bl b = 0 ∧ b < Bh)) ∨ W.heap.size ≤ b) ∧ b < W'.heap.size) : MxQ B Bl Bh lo W' v b :=
  ⟨by omega, hb.2, fun e => by have := h.lt b e.symm; omega⟩
theorem TsMixQ.append {B : Nat} {Bl : Nat → Nat} {Bh lo : Nat} {W : World} {v : Value} {G F : Ft} {L : Fo} {la x : Option Addr} {lc c : Nat} (h : TsMixQ B Bl Bh lo W v G) (k n : Int) (hl : SlIn W (MxQ B Bl Bh lo W v) L la lc) (hs : TlIn W (MxQ B Bl Bh lo W v) F x c) (ty : TypeId) (hG : G.len ≤ 1000) (hW : lo ≤ W.heap.size) :
    ∃ g' cap' w3, (Builtin.append_ #[28, 28] ty #[v, .slice (some ⟨W.heap.size, 0, none⟩) 1 1]).run Tryz.prog (W.alloc (.cells #[.int .i64 k, .int .i64 n, .slice la L.len lc, .slice x F.len c] 30)) = .ok (.slice (some ⟨g', 0, none⟩) (G.len + 1) cap') w3 ∧
      TsMixQ B Bl Bh lo w3 (.slice (some ⟨g', 0, none⟩) (G.len + 1) cap') (G.app (.cons k n L F .nil)) ∧ (∀ b, b < W.heap.size → some b ≠ v.ownBlock → w3.heap[b]? = W.heap[b]?) ∧ W.heap.size + 1 ≤ w3.heap.size ∧ w3.os = W.os ∧ w3.tape = W.tape ∧ w3.output = W.output := by
  obtain ⟨xs, h1, h2⟩ := h
  obtain ⟨i0, hi, hz0, hz1, hz2⟩ := info_parts infoTerm
  have hE := heap_new W (.cells #[.int .i64 k, .int .i64 n, .slice la L.len lc, .slice x F.len c] 30)
  have hc : ∀ i u, [Value.int .i64 k, .int .i64 n, .slice la L.len lc, .slice x F.len c][i]? = some u → (W.alloc (.cells #[.int .i64 k, .int .i64 n, .slice la L.len lc, .slice x F.len c] 30)).cell? ((⟨W.heap.size, 0, none⟩ : Addr).add i) = some u := by
    intro i u hi
    match i, hi with
    | 0, hi => cases hi; exact cell_at hE 0
    | 1, hi => cases hi; exact cell_at hE 1
    | 2, hi => cases hi; exact cell_at hE 2
    | 3, hi => cases hi; exact cell_at hE 3
  have ho : ∀ u ∈ [Value.int .i64 k, .int .i64 n, .slice la L.len lc, .slice x F.len c], u.oneCell' = true := by
    intro u hu
    simp only [List.mem_cons, List.not_mem_nil, or_false] at hu
    rcases hu with rfl | rfl | rfl | rfl <;> rfl
  obtain ⟨v', w3, hrun, a1, a2, _, a3⟩ := run_append_own_at (P := Tryz.prog) _ lo 28 ty 30 i0 _ 4 64 Tryz.underlying28 hi hz0 hz1 hz2 rfl (by omega) v G.len xs (h1.alloc _) ⟨W.heap.size, 0, none⟩ 1 1 _ rfl hc ho (by unfold maxLen; omega) (by omega) (by simp; omega)
  obtain ⟨g', cap', rfl⟩ := ownsRow_is a1 (Nat.succ_pos _)
  have z2 := a2.size
  rw [World.size_alloc] at z2
  have same : ∀ b, b < W.heap.size → some b ≠ v.ownBlock → w3.heap[b]? = W.heap[b]? := fun b hb hn => (a2.block b (by rw [World.size_alloc]; omega) hn).trans (heap_old _ _ hb)
  have hnew : ∀ b, b < W.heap.size → some b ≠ v.ownBlock → some b ≠ (Value.slice (some ⟨g', 0, none⟩) (G.len + 1) cap').ownBlock := fun b hb hn => by
    rcases a3 with a3 | a3
    · rw [a3]; exact hn
    · rw [a3]; intro e; injection e with e; simp at e; omega
  have hQ : ∀ b, MxQ B Bl Bh lo W v b → MxQ B Bl Bh lo w3 (.slice (some ⟨g', 0, none⟩) (G.len + 1) cap') b := fun b hb => ⟨hb.1, by have := hb.2.1; omega, hnew b hb.2.1 hb.2.2⟩
  refine ⟨g', cap', w3, hrun, ⟨xs ++ [.int .i64 k, .int .i64 n, .slice la L.len lc, .slice x F.len c], ?_, ?_⟩, same, z2, a2.os, a2.tape, a2.output⟩
  · rw [Ft.app_len]; exact a1
  · exact RepT.snoc ((hl.keep (fun b hb => same b hb.2.1 hb.2.2)).weak hQ) (hs.turn (fun b hb => same b hb.2.1 hb.2.2) hQ) (h2.turn (fun b hb => same b hb.2.1 hb.2.2) hQ)
theorem TsMixQ.slice {B : Nat} {Bl : Nat → Nat} {Bh lo : Nat} {W : World} {v : Value} {G : Ft} (h : TsMixQ B Bl Bh lo W v G) : ∃ x c, v = .slice x G.len c ∧ TlIn W (fun b => ((b < B ∨ (Bl b = 0 ∧ b < Bh)) ∨ lo ≤ b) ∧ b < W.heap.size) G x c := by
  obtain ⟨xs, ho, hr⟩ := h
  have hr2 := hr.turn (w' := W) (Q := fun b => ((b < B ∨ (Bl b = 0 ∧ b < Bh)) ∨ lo ≤ b) ∧ b < W.heap.size) (fun _ _ => rfl) (fun b hb => ⟨hb.1, hb.2.1⟩)
  rcases ho.2 with ⟨rfl, h0⟩ | ⟨g, cap, cur, rfl, hb, hh, hle, hm, hs, ht⟩
  · rw [Ft.len_zero h0]
    exact ⟨none, 0, rfl, TlIn.none _ _⟩
  · refine ⟨some ⟨g, 0, none⟩, cap, rfl, hle, hm, (fun h => by cases h), fun _ => ⟨g, 0, rfl, ⟨.inr hb, lt_of_block hh⟩, RepT.ftIn hr2 (fun j u hu => ?_)⟩⟩
    rw [Nat.zero_add]
    rw [ho.cellAt j (by have := (List.getElem?_eq_some_iff.1 hu).1; rw [hr.length] at this; exact this)]
    exact hu
def TmPostQ (B : Nat) (Bl : Nat → Nat) (Bh : Nat) (T : Tm) (w : World) (e : Ending) (w' : World) : Prop :=
  ∃ (la : Option Addr) (lc : Nat) (x : Option Addr) (c : Nat), e = .returned (.agg #[.int .i64 T.k, .int .i64 T.n, .slice la T.ls.len lc, .slice x T.ks.len c]) ∧ SlIn w' (fun b => ((b < B ∨ (Bl b = 0 ∧ b < Bh)) ∨ w.heap.size ≤ b) ∧ b < w'.heap.size) T.ls la lc ∧ TlIn w' (fun b => ((b < B ∨ (Bl b = 0 ∧ b < Bh)) ∨ w.heap.size ≤ b) ∧ b < w'.heap.size) T.ks x c ∧ Below w.heap.size w w'
theorem TmPostQ.store {B : Nat} {Bl : Nat → Nat} {Bh R : Nat} {T : Tm} {w w1 w3 : World} {la x : Option Addr} {lc c : Nat} (hl : SlIn w3 (fun b => ((b < B ∨ (Bl b = 0 ∧ b < Bh)) ∨ w1.heap.size ≤ b) ∧ b < w3.heap.size) T.ls la lc) (hs : TlIn w3 (fun b => ((b < B ∨ (Bl b = 0 ∧ b < Bh)) ∨ w1.heap.size ≤ b) ∧ b < w3.heap.size) T.ks x c) (hb : Below w.heap.size w w3) (hB : (B ≤ w.heap.size ∧ Bh ≤ w.heap.size)) (h1 : w.heap.size ≤ R) (h2 : R < w1.heap.size) :
    TmPostQ B Bl Bh T w (.returned (.agg #[.int .i64 T.k, .int .i64 T.n, .slice la T.ls.len lc, .slice x T.ks.len c])) ((((w3.setCell ⟨R, 0, none⟩ (.int .i64 T.k)).setCell ⟨R, 1, none⟩ (.int .i64 T.n)).setCell ⟨R, 2, none⟩ (.slice la T.ls.len lc)).setCell ⟨R, 3, none⟩ (.slice x T.ks.len c)) := by
  have hg := set4_only (w := w3) R (.int .i64 T.k) (.int .i64 T.n) (.slice la T.ls.len lc) (.slice x T.ks.len c)
  refine ⟨la, lc, x, c, rfl, ?_, ?_, ?_⟩
  · exact (hl.keep (fun b hb => Only.block hg hb.2 (by omega))).weak (fun b hb => ⟨by omega, Nat.lt_of_lt_of_le hb.2 hg.size⟩)
  · exact hs.turn (fun b hb => Only.block hg hb.2 (by omega)) (fun b hb => ⟨by omega, Nat.lt_of_lt_of_le hb.2 hg.size⟩)
  · exact ⟨hg.os.trans hb.os, hg.tape.trans hb.tape, hg.output.trans hb.output, Nat.le_trans hb.size hg.size, fun q hq => (Only.block hg (by have := hb.size; omega) (by omega)).trans (hb.block q hq)⟩
end Go.Proofs.YtnfhpombnbpdcaaGreat
namespace Go.Proofs.YtnfhpombnbpdcaaGreat
open Go.RowKit
def TrQQ (w : World) (R OB B : Nat) (Bl : Nat → Nat) (Bh : Nat) (k n : Int) (ls : Fo) (la : Option Addr) (lc : Nat) (G : Ft) (v : Value) (wr : World) : Prop :=
  wr.heap[R]? = some (.cells #[.int .i64 0, .int .i64 0, .slice none 0 0, .slice none 0 0] 30 (0, 0)) ∧ wr.heap[OB]? = some (.cells #[.int .i64 k, .int .i64 n, .slice la ls.len lc, v] 30 (0, 0)) ∧ TsMixQ B Bl Bh (OB + 1) wr v G ∧ (w.heap.size ≤ R ∧ R < OB) ∧ (B ≤ w.heap.size ∧ Bh ≤ w.heap.size) ∧ Below w.heap.size w wr
theorem TrQQ.facts {w : World} {R OB B : Nat} {Bl : Nat → Nat} {Bh : Nat} {k n : Int} {ls : Fo} {la : Option Addr} {lc : Nat} {G : Ft} {v : Value} {wr : World} (h : TrQQ w R OB B Bl Bh k n ls la lc G v wr) :
    (wr.cell? ⟨R, 0, none⟩ = some (.int .i64 0) ∧ wr.cell? ⟨R, 1, none⟩ = some (.int .i64 0) ∧ wr.cell? ⟨R, 2, none⟩ = some (.slice none 0 0) ∧ wr.cell? ⟨R, 3, none⟩ = some (.slice none 0 0) ∧ (∀ o, wr.frozen? ⟨R, o, none⟩ = false)) ∧
    (wr.cell? ⟨OB, 0, none⟩ = some (.int .i64 k) ∧ wr.cell? ⟨OB, 1, none⟩ = some (.int .i64 n) ∧ wr.cell? ⟨OB, 2, none⟩ = some (.slice la ls.len lc) ∧ wr.cell? ⟨OB, 3, none⟩ = some v ∧ (∀ o, wr.frozen? ⟨OB, o, none⟩ = false)) ∧ OB < wr.heap.size ∧ Below w.heap.size w wr := by
  obtain ⟨h1, h2, _, _, _, h6⟩ := h
  exact ⟨⟨cell_at h1 0, cell_at h1 1, cell_at h1 2, cell_at h1 3, free_of h1⟩, ⟨cell_at h2 0, cell_at h2 1, cell_at h2 2, cell_at h2 3, free_of h2⟩, lt_of_block h2, h6⟩
theorem TrQQ.next {w : World} {R OB B : Nat} {Bl : Nat → Nat} {Bh : Nat} {k n : Int} {ls : Fo} {la : Option Addr} {lc : Nat} {G : Ft} {v : Value} {wr : World} (h : TrQQ w R OB B Bl Bh k n ls la lc G v wr) (hG : G.len ≤ 1000) {T : Tm} {w2 : World} {x1 x2 : Option Addr} {c1 c2 : Nat}
    (hl : SlIn w2 (fun b => ((b < B ∨ (Bl b = 0 ∧ b < Bh)) ∨ wr.heap.size ≤ b) ∧ b < w2.heap.size) T.ls x1 c1) (hs : TlIn w2 (fun b => ((b < B ∨ (Bl b = 0 ∧ b < Bh)) ∨ wr.heap.size ≤ b) ∧ b < w2.heap.size) T.ks x2 c2) (hb : Below wr.heap.size wr w2) :
    w2.cell? ⟨OB, 3, none⟩ = some v ∧ OB < w2.heap.size ∧ ∃ g' cap' w3, (Builtin.append_ #[28, 28] 28 #[v, .slice (some ⟨w2.heap.size, 0, none⟩) 1 1]).run Tryz.prog (w2.alloc (.cells #[.int .i64 T.k, .int .i64 T.n, .slice x1 T.ls.len c1, .slice x2 T.ks.len c2] 30)) = .ok (.slice (some ⟨g', 0, none⟩) (G.len + 1) cap') w3 ∧
      w3.cell? ⟨OB, 3, none⟩ = some v ∧ (∀ o, w3.frozen? ⟨OB, o, none⟩ = false) ∧ (∀ q, q < OB → w3.heap[q]? = wr.heap[q]?) ∧ TrQQ w R OB B Bl Bh k n ls la lc (G.app T.one) (.slice (some ⟨g', 0, none⟩) (G.len + 1) cap') (w3.setCell ⟨OB, 3, none⟩ (.slice (some ⟨g', 0, none⟩) (G.len + 1) cap')) := by
  obtain ⟨h1, h2, h3, ⟨h4, h4'⟩, h5, h6⟩ := h
  have hlt := lt_of_block h2
  have e1 := (hb.block _ (lt_of_block h1)).trans h1
  have e2 := (hb.block _ hlt).trans h2
  have hz := hb.size
  have hM : ∀ b, ((b < B ∨ (Bl b = 0 ∧ b < Bh)) ∨ wr.heap.size ≤ b) ∧ b < w2.heap.size → MxQ B Bl Bh (OB + 1) w2 v b := fun b hb' => h3.out (by omega) (by omega) hb'
  obtain ⟨g', cap', w3, hrun, k3, same, z3, o1, o2, o3⟩ := (h3.later hb).append T.k T.n (hl.weak hM) (hs.weak hM) 28 hG (by omega)
  have nv : ∀ b, b ≤ OB → some b ≠ v.ownBlock := fun b hb e => by have := (h3.lt b e.symm).1; omega
  have f1 := (same _ (lt_of_block e1) (nv _ (by omega))).trans e1
  have f2 := (same _ (lt_of_block e2) (nv _ (by omega))).trans e2
  have n1 : R ≠ OB := by omega
  refine ⟨cell_at e2 3, lt_of_block e2, g', cap', w3, hrun, cell_at f2 3, free_of f2, fun q hq => (same q (by omega) (nv q (by omega))).trans (hb.block q (by omega)), (Below.heap_setCell _ _ _ _ n1).trans f1, heap_setCell_same w3 _ 3 _ _ _ f2, k3.setLow (by omega) (by omega) 3 _, ⟨h4, h4'⟩, h5, ?_⟩
  refine ⟨(o1.trans hb.os).trans h6.os, (o2.trans hb.tape).trans h6.tape, (o3.trans hb.output).trans h6.output, ?_, fun q hq => ?_⟩
  · have := h6.size; simp; omega
  · have hq6 := h6.size
    have nq : q ≠ OB := by omega
    rw [Below.heap_setCell _ _ _ _ nq, same q (by omega) (nv q (by omega)), hb.block q (by omega)]
    exact h6.block q hq
theorem TrQQ.done {w : World} {R OB B : Nat} {Bl : Nat → Nat} {Bh : Nat} {k n : Int} {ls : Fo} {la : Option Addr} {lc : Nat} {G : Ft} {v : Value} {wr : World} (h : TrQQ w R OB B Bl Bh k n ls la lc G v wr) (hl : SlIn w (fun b => b < B ∨ (Bl b = 0 ∧ b < Bh)) ls la lc) : ∃ x c, v = .slice x G.len c ∧
    TmPostQ B Bl Bh ⟨k, n, ls, G⟩ w (.returned (.agg #[.int .i64 k, .int .i64 n, .slice la ls.len lc, .slice x G.len c])) ((((wr.setCell ⟨R, 0, none⟩ (.int .i64 k)).setCell ⟨R, 1, none⟩ (.int .i64 n)).setCell ⟨R, 2, none⟩ (.slice la ls.len lc)).setCell ⟨R, 3, none⟩ (.slice x G.len c)) := by
  obtain ⟨h1, h2, h3, ⟨h4, h4'⟩, h5, h6⟩ := h
  obtain ⟨x, c, rfl, hsl⟩ := h3.slice
  have hg := set4_only (w := wr) R (.int .i64 k) (.int .i64 n) (.slice la ls.len lc) (.slice x G.len c)
  have hz := h6.size
  refine ⟨x, c, rfl, la, lc, x, c, rfl, ?_, ?_, ?_⟩
  · exact ((hl.belowQ h6 h5).keep (fun b hb => Only.block hg (by omega) (by omega))).weak (fun b hb => ⟨.inl hb, by have := hg.size; omega⟩)
  · exact hsl.turn (fun b hb => Only.block hg hb.2 (by omega)) (fun b hb => ⟨by omega, Nat.lt_of_lt_of_le hb.2 hg.size⟩)
  · exact ⟨hg.os.trans h6.os, hg.tape.trans h6.tape, hg.output.trans h6.output, Nat.le_trans h6.size hg.size, fun q hq => (Only.block hg (by omega) (by omega)).trans (h6.block q hq)⟩
theorem TrQQ.start1 {w : World} {k n : Int} {ls : Fo} {la : Option Addr} {lc B : Nat} {Bl : Nat → Nat} {Bh : Nat} (o1 : Obj) (hB : (B ≤ w.heap.size ∧ Bh ≤ w.heap.size)) :
    TrQQ w (w.heap.size + 1) (w.heap.size + 1 + 1) B Bl Bh k n ls la lc .nil (.slice none 0 0) (((w.alloc o1).alloc (.cells #[.int .i64 0, .int .i64 0, .slice none 0 0, .slice none 0 0] 30)).alloc (.cells #[.int .i64 k, .int .i64 n, .slice la ls.len lc, .slice none 0 0] 30)) := by
  refine ⟨(heap_old _ _ (by simp)).trans (heap_second _ _ _), ?_, TsMixQ.nil _ _ _ _ _, by omega, hB, (((Below.refl _ _).alloc (Nat.le_refl _) _).alloc (by simp) _).alloc (by simp; omega) _⟩
  have := heap_second (w.alloc o1) (.cells #[.int .i64 0, .int .i64 0, .slice none 0 0, .slice none 0 0] 30) (.cells #[.int .i64 k, .int .i64 n, .slice la ls.len lc, .slice none 0 0] 30)
  simpa using this
theorem TrQQ.start2 {w : World} {k n : Int} {ls : Fo} {la : Option Addr} {lc B : Nat} {Bl : Nat → Nat} {Bh : Nat} (o1 o2 : Obj) (hB : (B ≤ w.heap.size ∧ Bh ≤ w.heap.size)) :
    TrQQ w (w.heap.size + 1 + 1) (w.heap.size + 1 + 1 + 1) B Bl Bh k n ls la lc .nil (.slice none 0 0) ((((w.alloc o1).alloc o2).alloc (.cells #[.int .i64 0, .int .i64 0, .slice none 0 0, .slice none 0 0] 30)).alloc (.cells #[.int .i64 k, .int .i64 n, .slice la ls.len lc, .slice none 0 0] 30)) := by
  refine ⟨(heap_old _ _ (by simp)).trans ?_, ?_, TsMixQ.nil _ _ _ _ _, by omega, hB, ((((Below.refl _ _).alloc (Nat.le_refl _) _).alloc (by simp) _).alloc (by simp; omega) _).alloc (by simp; omega) _⟩
  · have := heap_second (w.alloc o1) o2 (.cells #[.int .i64 0, .int .i64 0, .slice none 0 0, .slice none 0 0] 30)
    simpa using this
  · have := heap_second ((w.alloc o1).alloc o2) (.cells #[.int .i64 0, .int .i64 0, .slice none 0 0, .slice none 0 0] 30) (.cells #[.int .i64 k, .int .i64 n, .slice la ls.len lc, .slice none 0 0] 30)
    simpa using this
end Go.Proofs.YtnfhpombnbpdcaaGreat
namespace Go.Proofs.YtnfhpombnbpdcaaGreat
open Go.RowKit
end Go.Proofs.YtnfhpombnbpdcaaGreat
namespace Go.Proofs.YtnfhpombnbpdcaaGreat
open Go.RowKit
theorem RpRQ.next2 {w : World} {OB B : Nat} {Bl : Nat → Nat} {Bh : Nat} {k n : Int} {G : Fo} {v : Value} {wr : World} (h : RpRQ w OB B Bl Bh k n G v wr) (hG : G.len ≤ 1000) {k' n' : Int} {F' : Fo} {w2 : World} {x' : Option Addr} {c' : Nat} (hs : SlIn w2 (fun b => ((b < B ∨ (Bl b = 0 ∧ b < Bh)) ∨ wr.heap.size ≤ b) ∧ b < w2.heap.size) F' x' c') (hb : Below wr.heap.size wr w2) :
    w2.cell? ⟨OB, 2, none⟩ = some v ∧ OB < w2.heap.size ∧ ∃ g' cap' w3, (Builtin.append_ #[27, 27] 27 #[v, .slice (some ⟨w2.heap.size, 0, none⟩) 1 1]).run Tryz.prog (w2.alloc (.cells #[.int .i64 k', .int .i64 n', .slice x' F'.len c'] 45)) = .ok (.slice (some ⟨g', 0, none⟩) (G.len + 1) cap') w3 ∧
      w3.cell? ⟨OB, 2, none⟩ = some v ∧ (∀ o, w3.frozen? ⟨OB, o, none⟩ = false) ∧ RpRQ w OB B Bl Bh k n (G.app (.cons k' n' F' .nil)) (.slice (some ⟨g', 0, none⟩) (G.len + 1) cap') (w3.setCell ⟨OB, 2, none⟩ (.slice (some ⟨g', 0, none⟩) (G.len + 1) cap')) ∧ ∀ q, q < OB → (w3.setCell ⟨OB, 2, none⟩ (.slice (some ⟨g', 0, none⟩) (G.len + 1) cap')).heap[q]? = wr.heap[q]? := by
  obtain ⟨h1, h2, h3, h4, h5, h6⟩ := h
  have hlt := lt_of_block h2
  have e1 := (hb.block _ (lt_of_block h1)).trans h1
  have e2 := (hb.block _ hlt).trans h2
  have hz := hb.size
  obtain ⟨g', cap', w3, hrun, k3, same, z3, o1, o2, o3⟩ := (h3.later hb).append k' n' (h3.fresh (by omega) (by omega) hs) 27 hG (by omega) (by omega)
  have nv : ∀ b, b ≤ OB → some b ≠ v.ownBlock := fun b hb e => by have := (h3.lt b e.symm).1; omega
  have f1 := (same _ (lt_of_block e1) (nv _ (by omega))).trans e1
  have f2 := (same _ (lt_of_block e2) (nv _ (by omega))).trans e2
  have n1 : w.heap.size + 1 ≠ OB := by omega
  refine ⟨cell_at e2 2, lt_of_block e2, g', cap', w3, hrun, cell_at f2 2, free_of f2, ⟨(Below.heap_setCell _ _ _ _ n1).trans f1, heap_setCell_same w3 _ 2 _ _ _ f2, k3.setLow (by omega) (by omega) 2 _, h4, h5, ?_⟩, fun q hq => (Below.heap_setCell _ _ _ _ (show q ≠ OB by omega)).trans ((same q (by omega) (nv q (by omega))).trans (hb.block q (by omega)))⟩
  refine ⟨(o1.trans hb.os).trans h6.os, (o2.trans hb.tape).trans h6.tape, (o3.trans hb.output).trans h6.output, ?_, fun q hq => ?_⟩
  · have := h6.size; simp; omega
  · have hq6 := h6.size
    have nq : q ≠ OB := by omega
    rw [Below.heap_setCell _ _ _ _ nq, same q (by omega) (nv q (by omega)), hb.block q (by omega)]
    exact h6.block q hq
theorem RpRQ.start2 {w : World} {k n : Int} {a : Option Addr} {len cap B : Nat} {Bl : Nat → Nat} {Bh : Nat} (hB : (B ≤ w.heap.size ∧ Bh ≤ w.heap.size)) :
    RpRQ w (w.heap.size + 1 + 1) B Bl Bh k n .nil (.slice none 0 0) (((w.alloc (.cells #[.int .i64 k, .int .i64 n, .slice a len cap] 45)).alloc (.cells #[.int .i64 0, .int .i64 0, .slice none 0 0] 45)).alloc (.cells #[.int .i64 k, .int .i64 n, .slice none 0 0] 45)) ∧
    (((w.alloc (.cells #[.int .i64 k, .int .i64 n, .slice a len cap] 45)).alloc (.cells #[.int .i64 0, .int .i64 0, .slice none 0 0] 45)).alloc (.cells #[.int .i64 k, .int .i64 n, .slice none 0 0] 45)).heap[w.heap.size]? = some (.cells #[.int .i64 k, .int .i64 n, .slice a len cap] 45 (0, 0)) := by
  refine ⟨⟨(heap_old _ _ (by simp)).trans (heap_second _ _ _), ?_, KsMixQ.nil _ _ _ _ _, by omega, hB, (((Below.refl _ _).alloc (Nat.le_refl _) _).alloc (by simp) _).alloc (by simp; omega) _⟩, (heap_old _ _ (by simp; omega)).trans ((heap_old _ _ (by simp)).trans (heap_new _ _))⟩
  have := heap_new ((w.alloc (.cells #[.int .i64 k, .int .i64 n, .slice a len cap] 45)).alloc (.cells #[.int .i64 0, .int .i64 0, .slice none 0 0] 45)) (.cells #[.int .i64 k, .int .i64 n, .slice none 0 0] 45)
  simpa using this
theorem put_inQ {w : World} {B : Nat} {Bl : Nat → Nat} {Bh : Nat} {k' n' : Int} {ks : Fo} {a' : Option Addr} {cap' : Nat} (hs : SlIn w (fun b => b < B ∨ (Bl b = 0 ∧ b < Bh)) ks a' cap') (hB : (B ≤ w.heap.size ∧ Bh ≤ w.heap.size)) (o1 o2 : Obj) : RpPostQ B Bl Bh (.cons k' n' ks .nil) w (.returned (.agg #[.int .i64 k', .int .i64 n', .slice a' ks.len cap'])) ((w.alloc o1).alloc o2) := by
  have hb : Below w.heap.size w ((w.alloc o1).alloc o2) := ((Below.refl _ _).alloc (Nat.le_refl _) _).alloc (by simp) _
  exact ⟨k', n', ks, a', cap', rfl, rfl, (hs.belowQ hb hB).weak (fun b h => ⟨.inl h, by have := hb.size; omega⟩), hb⟩
set_option maxRecDepth 100000 in
set_option maxHeartbeats 4000000 in
theorem r5sub_anyQ (P Q : Fo) (ap aq : Option Addr) (cp cq B : Nat) (Bl : Nat → Nat) (Bh : Nat) (s : Nat) : ∀ (f : Fo), f.size < s → f.size ≤ 1000 → ∀ (k n : Int) (a : Option Addr) (cap : Nat) (w : World), 0 ≤ n → noneg f → SlIn w (fun b => b < B ∨ (Bl b = 0 ∧ b < Bh)) P ap cp → SlIn w (fun b => b < B ∨ (Bl b = 0 ∧ b < Bh)) Q aq cq → SlIn w (fun b => b < B ∨ (Bl b = 0 ∧ b < Bh)) f a cap → (B ≤ w.heap.size ∧ Bh ≤ w.heap.size) →
    Calls Tryz.prog 101 #[.agg #[.int .i64 k, .int .i64 n, .slice a f.len cap], .slice ap P.len cp, .slice aq Q.len cq] w (RpPostQ B Bl Bh (sb1 P Q k n (sbF P Q f)) w) := by
  induction s with
  | zero => intro f hs; omega
  | succ s ih =>
    intro f hs hsz k n a cap w hn hnn hsp hsq hsl hB
    have IH := Lib.hid ih
    clear ih
    have hlen := hsl.len
    have hlp := hsp.len
    have hlq := hsq.len
    have hw2 : Below w.heap.size w ((w.alloc (.cells #[.int .i64 k, .int .i64 n, .slice a f.len cap] 45)).alloc (.cells #[.int .i64 0, .int .i64 0, .slice none 0 0] 45)) := ((Below.refl _ _).alloc (Nat.le_refl _) _).alloc (by simp) _
    have HPUT : Hid (∀ (k' n' : Int) (ks : Fo) (a' : Option Addr) (cap' : Nat) (o1 o2 : Obj), SlIn w (fun b => b < B ∨ (Bl b = 0 ∧ b < Bh)) ks a' cap' → RpPostQ B Bl Bh (.cons k' n' ks .nil) w (.returned (.agg #[.int .i64 k', .int .i64 n', .slice a' ks.len cap'])) ((w.alloc o1).alloc o2)) := Lib.hid (fun k' n' ks a' cap' o1 o2 h => put_inQ h hB o1 o2)
    have hT : sb1 P Q k n (sbF P Q f) = (sv P Q k n).getD (.cons k n (sbF P Q f) .nil) := rfl
    rw [hT]
    have HLOOP : Hid (sv P Q k n = none → ((k == 5) = false ∨ ((k == 5) = true ∧ decide (n < (P.len : Int)) = false)) → ((k == 6) = false ∨ ((k == 6) = true ∧ decide (n < (Q.len : Int)) = false)) → Calls Tryz.prog 101 #[.agg #[.int .i64 k, .int .i64 n, .slice a f.len cap], .slice ap P.len cp, .slice aq Q.len cq] w (RpPostQ B Bl Bh (.cons k n (sbF P Q f) .nil) w)) := Lib.hid (by
      intro hsv d5 d6
      clear hT HPUT
      obtain ⟨hS1, hS2⟩ := RpRQ.start2 (Bl := Bl) (w := w) (k := k) (n := n) (a := a) (len := f.len) (cap := cap) hB
      have HS := Lib.hid hS1
      have HS0 := Lib.hid hS2
      have HSL := Lib.hid hsl
      clear hS1 hS2 hsl hsv hw2
      have k3 := cell_at (heap_old ((w.alloc (.cells #[.int .i64 k, .int .i64 n, .slice a f.len cap] 45)).alloc (.cells #[.int .i64 0, .int .i64 0, .slice none 0 0] 45)) (.cells #[.int .i64 k, .int .i64 n, .slice none 0 0] 45) (show w.heap.size < _ by simp; omega) |>.trans ((heap_old _ _ (by simp)).trans (heap_new _ _))) 2
      go_enter Tryz.func101, Tryz.ntmps101
      rcases d5 with d5 | ⟨d5, d5'⟩ <;> rcases d6 with d6 | ⟨d6, d6'⟩
      case' inl.inl => go_wp2_with fail
      case' inl.inr => go_wp2_with fail
      case' inr.inl => go_wp2_with fail
      case inr.inr => have h1 := beq_iff_eq.1 d5; have h2 := beq_iff_eq.1 d6; omega
      all_goals
        go_loopw [8] (fun jv wr => ∃ (j : Nat) (H rest : Fo) (v : Value), jv = .int .i64 j ∧ Hid (f = H.app rest) ∧ Hid (H.len = j) ∧ Hid (RpRQ w (w.heap.size + 1 + 1) B Bl Bh k n (sbF P Q H) v wr) ∧ Hid (wr.heap[w.heap.size]? = some (.cells #[.int .i64 k, .int .i64 n, .slice a f.len cap] 45 (0, 0)))) (fun jv _ => f.len - (intOf jv).toNat)
        case atStart => exact ⟨0, .nil, f, _, rfl, Lib.hid rfl, Lib.hid rfl, HS, HS0⟩
        case round =>
          obtain ⟨j, H, rest, v, rfl, hf, hj, hR, hS⟩ := hrel
          have s2 := cell_at hS.out 2
          simp at s2
          have hnH := noneg_app (f := H) (g := rest) (by rw [← hf.out]; exact hnn)
          have hGl := sbF_len P Q H hnH.1
          obtain ⟨g0, g1, g2, gz, q0, q1, q2, qz, hob, hwr⟩ := hR.out.facts
          cases rest with
          | nil =>
            rw [foApp_nil'] at hf
            clear hGl
            have hjl : ¬ (j : Int) < (f.len : Int) := by rw [hf.out, hj.out]; omega
            have dj : decide ((j : Int) < (f.len : Int)) = false := by simpa using hjl
            obtain ⟨x, c, rfl, hE⟩ := hR.out.done
            have HE := Lib.hid hE
            have HF := Lib.hid hf.out
            clear hE hR hS
            go_wp2_with fail
            refine bodyPost_ret (v := .agg #[.int .i64 k, .int .i64 n, .slice x (sbF P Q H).len c]) (by simp [results, Tryz.results101, go_sem, g0, g1, g2]) rfl ?_
            rw [HF.out]
            exact HE.out
          | cons k' n' ks r' =>
            have hjn : j < f.len := by rw [hf.out, Fo.app_len, hj.out]; simp [Fo.len]
            have hjl : (j : Int) < (f.len : Int) := by omega
            obtain ⟨b, o, rfl, hbB, hf0⟩ := HSL.out.some (by omega)
            have hfa : FoIn w (fun b => b < B ∨ (Bl b = 0 ∧ b < Bh)) (.cons k' n' ks r') b (o + j * 3) := by
              have h1 := hf0
              rw [hf.out] at h1
              rw [← hj.out]
              exact FoIn.behind H _ b o h1
            obtain ⟨e0, e1, ⟨a', cap', e2, hsl'⟩, _⟩ := (hfa.belowQ hwr hB _ _ _ hbB).first
            have hks : ks.size < s := by
              have h1 := hs
              rw [hf.out, Fo.app_size] at h1
              simp only [Fo.size] at h1
              omega
            have hBr : (B ≤ wr.heap.size ∧ Bh ≤ wr.heap.size) := leQ hB hwr.size
            have hbk : Below wr.heap.size wr wr.drew := (Below.refl _ _).drew
            have HC : Hid (Calls Tryz.prog 101 #[.agg #[.int .i64 k', .int .i64 n', .slice a' ks.len cap'], .slice ap P.len cp, .slice aq Q.len cq] wr.drew (RpPostQ B Bl Bh (sb1 P Q k' n' (sbF P Q ks)) wr.drew)) :=
              Lib.hid (IH.out ks hks (by have h1 := hsz; rw [hf.out, Fo.app_size] at h1; simp only [Fo.size] at h1; omega) k' n' a' cap' _ hnH.2.1 hnH.2.2.1 ((hsp.belowQ hwr hB).belowQ hbk hBr) ((hsq.belowQ hwr hB).belowQ hbk hBr) (hsl'.belowQ hbk hBr) (leQ hBr hbk.size))
            have HAP : Hid (∀ (e : Ending) (w2 : World), RpPostQ B Bl Bh (sb1 P Q k' n' (sbF P Q ks)) wr.drew e w2 → ∃ (k2 n2 : Int) (F2 : Fo) (x2 : Option Addr) (c2 : Nat), e = .returned (.agg #[.int .i64 k2, .int .i64 n2, .slice x2 F2.len c2]) ∧
                w2.cell? ⟨w.heap.size + 1 + 1, 2, none⟩ = some v ∧ w.heap.size + 1 + 1 < w2.heap.size ∧ (w2.alloc (.cells #[.int .i64 k2, .int .i64 n2, .slice x2 F2.len c2] 45)).cell? ⟨w.heap.size + 1 + 1, 2, none⟩ = some v ∧
                ∃ g' cap' w3, Hid ((Builtin.append_ #[27, 27] 27 #[v, .slice (some ⟨w2.heap.size, 0, none⟩) 1 1]).run Tryz.prog (w2.alloc (.cells #[.int .i64 k2, .int .i64 n2, .slice x2 F2.len c2] 45)) = .ok (.slice (some ⟨g', 0, none⟩) (j + 1) cap') w3) ∧
                  w3.cell? ⟨w.heap.size + 1 + 1, 2, none⟩ = some v ∧ (∀ o, w3.frozen? ⟨w.heap.size + 1 + 1, o, none⟩ = false) ∧ Hid (RpRQ w (w.heap.size + 1 + 1) B Bl Bh k n (sbF P Q (H.app (.cons k' n' ks .nil))) (.slice (some ⟨g', 0, none⟩) (j + 1) cap') (w3.setCell ⟨w.heap.size + 1 + 1, 2, none⟩ (.slice (some ⟨g', 0, none⟩) (j + 1) cap'))) ∧ Hid ((w3.setCell ⟨w.heap.size + 1 + 1, 2, none⟩ (.slice (some ⟨g', 0, none⟩) (j + 1) cap')).heap[w.heap.size]? = some (.cells #[.int .i64 k, .int .i64 n, .slice (some ⟨b, o, none⟩) f.len cap] 45 (0, 0)))) := Lib.hid (by
              rintro e w2 ⟨k2, n2, F2, x2, c2, hT, rfl, t1, t2⟩
              have hT' : sbF P Q (H.app (.cons k' n' ks .nil)) = (sbF P Q H).app (.cons k2 n2 F2 .nil) := by rw [sbF_app, ← hT]; show (sbF P Q H).app ((sb1 P Q k' n' (sbF P Q ks)).app .nil) = _; rw [foApp_nil']
              have hG1 : (sbF P Q H).len ≤ 1000 := by rw [hGl]; have h1 := Fo.len_le_size f; rw [hf.out, Fo.app_len, Fo.app_size] at h1; rw [hf.out, Fo.app_size] at hsz; omega
              have t3 : SlIn w2 (fun b => ((b < B ∨ (Bl b = 0 ∧ b < Bh)) ∨ wr.heap.size ≤ b) ∧ b < w2.heap.size) F2 x2 c2 := t1.weak (fun b hb => ⟨by have h1 := hb.1; simp at h1; omega, hb.2⟩)
              have t4 : Below wr.heap.size wr w2 := Below.trans ((Below.refl _ _).drew) (t2.mono (by simp))
              obtain ⟨L2, hlb2, g', cap', w3, hrun, L3, Z3, hN, hold⟩ := RpRQ.next2 (k' := k2) (n' := n2) hR.out hG1 t3 t4
              rw [hGl, hj.out] at hrun hN hold
              rw [hT']
              exact ⟨k2, n2, F2, x2, c2, rfl, L2, hlb2, (World.cell?_of_block (w := w2) (a := ⟨w.heap.size + 1 + 1, 2, none⟩) (heap_old w2 _ hlb2)).trans L2, g', cap', w3, Lib.hid hrun, L3, Z3, Lib.hid hN, Lib.hid ((hold _ (by omega)).trans hS.out)⟩)
            have HSN : Hid (f = (H.app (.cons k' n' ks .nil)).app r') := Lib.hid (by rw [hf.out, foApp_assoc']; rfl)
            have HJ := Lib.hid hj.out
            clear hf hR hfa hf0 hnH hGl g0 g1 g2 gz q0 q1 qz hbk hS
            go_wp2_with fail
            go_region_law (first
              | (refine step_append (by rfl) _ _ _ (by rfl) (by rfl) (by rfl) HRUN.out ?_)
              | (go_simp; go_at_call 101; refine HC.out.mono ?_; intro e w2 hP; obtain ⟨k2, n2, F2, x2, c2, rfl, L2, hlb2, L2a, g', cap', w3, HRUN, L3, Z3, HN, HNS⟩ := HAP.out e w2 hP; clear hP))
            all_goals
              go_wp2_with fail
              go_roundw
              case rel => exact ⟨j + 1, _, r', _, by go_num, HSN, Lib.hid (by rw [Fo.app_len, HJ.out]; rfl), HN, HNS⟩
              case measure => simp [intOf]; omega)
    by_cases h5 : k = 5
    · by_cases hp : n < P.len
      · subst h5
        obtain ⟨i, rfl⟩ : ∃ i : Nat, n = i := ⟨n.toNat, by omega⟩
        rw [sv_5 hp, Int.toNat_natCast]
        obtain ⟨b, o, k', n', ks, a', cap', rfl, hbB, hg, e0, e1, e2, hs'⟩ := slGet hsp (i := i) (by omega)
        have e0' := (bcell hw2 b (o + i * 3) (by omega)).trans e0
        have e1' := (bcell hw2 b (o + i * 3 + 1) (by omega)).trans e1
        have e2' := (bcell hw2 b (o + i * 3 + 2) (by omega)).trans e2
        have hi0 : (0 : Int) ≤ (i : Int) := by omega
        rw [hg]
        show Calls _ _ _ _ (RpPostQ B Bl Bh (.cons k' n' ks .nil) w)
        have HE := Lib.hid (HPUT.out k' n' ks a' cap' (.cells #[.int .i64 5, .int .i64 i, .slice a f.len cap] 45) (.cells #[.int .i64 k', .int .i64 n', .slice a' ks.len cap'] 45) hs')
        clear hw2 hs' hg hsp hsq e0 e1 e2 HLOOP HPUT IH hT
        go_enter Tryz.func101, Tryz.ntmps101
        go_wp2_with fail
        refine bodyPost_ret (v := .agg #[.int .i64 k', .int .i64 n', .slice a' ks.len cap']) (by simp [results, Tryz.results101, go_sem]) rfl ?_
        exact HE.out
      · subst h5
        rw [sv_5n hp]
        exact HLOOP.out (sv_5n hp) (.inr ⟨rfl, decide_eq_false hp⟩) (.inl rfl)
    · have d5 : (k == 5) = false := beq_eq_false_iff_ne.2 h5
      by_cases h6 : k = 6
      · by_cases hp : n < Q.len
        · subst h6
          obtain ⟨i, rfl⟩ : ∃ i : Nat, n = i := ⟨n.toNat, by omega⟩
          rw [sv_6 hp, Int.toNat_natCast]
          obtain ⟨b, o, k', n', ks, a', cap', rfl, hbB, hg, e0, e1, e2, hs'⟩ := slGet hsq (i := i) (by omega)
          have e0' := (bcell hw2 b (o + i * 3) (by omega)).trans e0
          have e1' := (bcell hw2 b (o + i * 3 + 1) (by omega)).trans e1
          have e2' := (bcell hw2 b (o + i * 3 + 2) (by omega)).trans e2
          have hi0 : (0 : Int) ≤ (i : Int) := by omega
          rw [hg]
          show Calls _ _ _ _ (RpPostQ B Bl Bh (.cons k' n' ks .nil) w)
          have HE := Lib.hid (HPUT.out k' n' ks a' cap' (.cells #[.int .i64 6, .int .i64 i, .slice a f.len cap] 45) (.cells #[.int .i64 k', .int .i64 n', .slice a' ks.len cap'] 45) hs')
          clear hw2 hs' hg hsp hsq e0 e1 e2 HLOOP HPUT IH hT
          go_enter Tryz.func101, Tryz.ntmps101
          go_wp2_with fail
          refine bodyPost_ret (v := .agg #[.int .i64 k', .int .i64 n', .slice a' ks.len cap']) (by simp [results, Tryz.results101, go_sem]) rfl ?_
          exact HE.out
        · subst h6
          rw [sv_6n hp]
          exact HLOOP.out (sv_6n hp) (.inl rfl) (.inr ⟨rfl, decide_eq_false hp⟩)
      · rw [sv_no h5 h6]
        exact HLOOP.out (sv_no h5 h6) (.inl d5) (.inl (beq_eq_false_iff_ne.2 h6))
end Go.Proofs.YtnfhpombnbpdcaaGreat
namespace Go.Proofs.YtnfhpombnbpdcaaGreat
open Go
def ins (n : Int) (zs : List Int) : List Int := if n ∈ zs then zs else zs ++ [n]
theorem ins_len (n : Int) (zs : List Int) : (ins n zs).length ≤ zs.length + 1 := by
  unfold ins; split
  · omega
  · simp
def onceL : List Int → List Int → List Int
  | [], zs => zs
  | x :: xs, zs => onceL xs (ins x zs)
theorem onceL_app : ∀ (xs ys zs : List Int), onceL (xs ++ ys) zs = onceL ys (onceL xs zs)
  | [], _, _ => rfl
  | x :: xs, ys, zs => onceL_app xs ys (ins x zs)
end Go.Proofs.YtnfhpombnbpdcaaGreat
namespace Go.Proofs.YtnfhpombnbpdcaaGreat
open Go.RowKit
def SameR (w : World) (B : Nat) (res : Bool) (N : Nat) (s5 s6 : Value) (wr : World) : Prop :=
  ∃ (F G : Fo) (ga ca gb cb : Nat), s5 = .slice (some ⟨ga, 0, none⟩) F.len ca ∧ s6 = .slice (some ⟨gb, 0, none⟩) G.len cb ∧ F.size = N ∧ F.len = G.len ∧ ga ≠ gb ∧ F.size ≤ 1000001 ∧ G.size ≤ 1000001 ∧
    Own w B wr w.heap.size ga ca F ∧ Own w B wr w.heap.size gb cb G ∧ res = decide (F = G) ∧ Below w.heap.size w wr
def SameS (w : World) (B : Nat) (res : Bool) (N L ga ca gb cb : Nat) (k1 n1 : Int) (ks : Fo) (a1 : Option Addr) (c1 : Nat) (k2 n2 : Int) (ks' : Fo) (a2 : Option Addr) (c2 : Nat) (wr : World) : Prop :=
  ∃ i j : Fo, i.len = L ∧ j.len = L ∧ i.size + ks.size + 1 = N ∧ ga ≠ gb ∧ i.size + ks.size ≤ 1000000 ∧ j.size + ks'.size ≤ 1000000 ∧ Own w B wr w.heap.size ga ca i ∧ Own w B wr w.heap.size gb cb j ∧ SlIn w (· < B) ks a1 c1 ∧ SlIn w (· < B) ks' a2 c2 ∧
    res = decide (i.app (.cons k1 n1 ks .nil) = j.app (.cons k2 n2 ks' .nil)) ∧ Below w.heap.size w wr
theorem own_cap {w0 w : World} {B base g cap : Nat} {f : Fo} (h : Own w0 B w base g cap f) : f.len ≤ cap ∧ cap ≤ 9223372036854775807 := by
  obtain ⟨xs, ho, _⟩ := h
  rcases ho.2 with ⟨he, _⟩ | ⟨g', c', cur, hv, hb, hh, hle, hm, _⟩
  · cases he
  · injection hv with _ _ hv3
    subst hv3
    unfold maxLen at hm
    exact ⟨hle, by omega⟩
theorem SameR.split {w : World} {B : Nat} {res : Bool} {N : Nat} {s5 s6 : Value} {wr : World} (h : SameR w B res N s5 s6 wr) :
    (res = true ∧ Below w.heap.size w wr ∧ ∃ ga ca gb cb, s5 = .slice (some ⟨ga, 0, none⟩) 0 ca ∧ s6 = .slice (some ⟨gb, 0, none⟩) 0 cb) ∨
    ∃ (L ga ca gb cb : Nat) (k1 n1 : Int) (ks : Fo) (a1 : Option Addr) (c1 : Nat) (k2 n2 : Int) (ks' : Fo) (a2 : Option Addr) (c2 : Nat), s5 = .slice (some ⟨ga, 0, none⟩) (L + 1) ca ∧ s6 = .slice (some ⟨gb, 0, none⟩) (L + 1) cb ∧
      L ≤ 1000000 ∧ L + 1 ≤ ca ∧ L + 1 ≤ cb ∧ ca ≤ 9223372036854775807 ∧ cb ≤ 9223372036854775807 ∧ ks.len ≤ 1000000 ∧ ks'.len ≤ 1000000 ∧ ga < wr.heap.size ∧ gb < wr.heap.size ∧
      wr.cell? ⟨ga, L * 3, none⟩ = some (.int .i64 k1) ∧ wr.cell? ⟨ga, L * 3 + 1, none⟩ = some (.int .i64 n1) ∧ wr.cell? ⟨ga, L * 3 + 2, none⟩ = some (.slice a1 ks.len c1) ∧
      wr.cell? ⟨gb, L * 3, none⟩ = some (.int .i64 k2) ∧ wr.cell? ⟨gb, L * 3 + 1, none⟩ = some (.int .i64 n2) ∧ wr.cell? ⟨gb, L * 3 + 2, none⟩ = some (.slice a2 ks'.len c2) ∧
      SameS w B res N L ga ca gb cb k1 n1 ks a1 c1 k2 n2 ks' a2 c2 wr := by
  obtain ⟨F, G, ga, ca, gb, cb, rfl, rfl, hN, hl, hne, h1, h2, o1, o2, hr, hb⟩ := h
  rcases Nat.eq_zero_or_pos F.len with h0 | h0
  · have e1 := Fo.len_zero h0
    have e2 := Fo.len_zero (f := G) (by omega)
    subst e1 e2
    exact .inl ⟨hr, hb, ga, ca, gb, cb, rfl, rfl⟩
  · obtain ⟨i, k1, n1, ks, rfl⟩ := Fo.snoc h0
    obtain ⟨j, k2, n2, ks', rfl⟩ := Fo.snoc (f := G) (by omega)
    obtain ⟨a1, c1, x0, x1, x2, hs1⟩ := o1.last
    obtain ⟨a2, c2, y0, y1, y2, hs2⟩ := o2.last
    have hi : (i.app (.cons k1 n1 ks .nil)).len = i.len + 1 := by rw [Fo.app_len]; rfl
    have hj : (j.app (.cons k2 n2 ks' .nil)).len = j.len + 1 := by rw [Fo.app_len]; rfl
    have hij : j.len = i.len := by omega
    have z1 : (i.app (.cons k1 n1 ks .nil)).size = i.size + ks.size + 1 := by rw [Fo.app_size]; simp [Fo.size]; omega
    have z2 : (j.app (.cons k2 n2 ks' .nil)).size = j.size + ks'.size + 1 := by rw [Fo.app_size]; simp [Fo.size]; omega
    have q1 := own_cap o1
    have q2 := own_cap o2
    have l1 := Fo.len_le_size i
    have l2 := Fo.len_le_size ks
    have l3 := Fo.len_le_size ks'
    refine .inr ⟨i.len, ga, ca, gb, cb, k1, n1, ks, a1, c1, k2, n2, ks', a2, c2, by rw [hi], by rw [hj, hij], by omega, by omega, by omega, q1.2, q2.2, by omega, by omega, o1.lt.2, o2.lt.2, x0, x1, x2, by rw [← hij]; exact y0, by rw [← hij]; exact y1, by rw [← hij]; exact y2, ?_⟩
    exact ⟨i, j, rfl, hij, by omega, hne, by omega, by omega, o1.cut, o2.cut, hs1, hs2, hr, hb⟩
theorem SameS.no {w : World} {B : Nat} {res : Bool} {N L ga ca gb cb : Nat} {k1 n1 : Int} {ks : Fo} {a1 : Option Addr} {c1 : Nat} {k2 n2 : Int} {ks' : Fo} {a2 : Option Addr} {c2 : Nat} {wr : World} (h : SameS w B res N L ga ca gb cb k1 n1 ks a1 c1 k2 n2 ks' a2 c2 wr)
    (hne : k1 ≠ k2 ∨ n1 ≠ n2 ∨ ks.len ≠ ks'.len) : res = false := by
  obtain ⟨i, j, e1, e2, _, _, _, _, _, _, _, _, hr, _⟩ := h
  rw [hr]
  apply decide_eq_false
  rw [Fo.app_eq (by omega)]
  rintro ⟨_, h⟩
  injection h with h1 h2 h3 _
  subst h1 h2 h3
  simp at hne
theorem Own.below {w0 w w' : World} {B base g cap : Nat} {f : Fo} (h : Own w0 B w base g cap f) (hb : Below w.heap.size w w') : Own w0 B w' base g cap f :=
  h.kept (row := none) ⟨hb.os, hb.tape, hb.output, hb.size, fun i hi _ => hb.block i hi⟩ (by simp)
theorem SameS.first {w : World} {B : Nat} {res : Bool} {N L ga ca gb cb : Nat} {k1 n1 : Int} {ks : Fo} {a1 : Option Addr} {c1 : Nat} {k2 n2 : Int} {ks' : Fo} {a2 : Option Addr} {c2 : Nat} {wr W : World} (h : SameS w B res N L ga ca gb cb k1 n1 ks a1 c1 k2 n2 ks' a2 c2 wr)
    (hB : B ≤ w.heap.size) (hk : Below wr.heap.size wr W) (ty : TypeId) :
    ∃ ga' ca' wA, (Builtin.append_ #[27, 27] ty #[.slice (some ⟨ga, 0, none⟩) L ca, .slice a1 ks.len c1]).run Tryz.prog W = .ok (.slice (some ⟨ga', 0, none⟩) (L + ks.len) ca') wA ∧ W.grownBy wA (some ga) ∧
      (∀ wA', Below wA.heap.size wA wA' → ∀ ty, ∃ gb' cb' wB, (Builtin.append_ #[27, 27] ty #[.slice (some ⟨gb, 0, none⟩) L cb, .slice a2 ks'.len c2]).run Tryz.prog wA' = .ok (.slice (some ⟨gb', 0, none⟩) (L + ks'.len) cb') wB ∧ wA'.grownBy wB (some gb) ∧
        (k1 = k2 → n1 = n2 → ks.len = ks'.len → SameR w B res (N - 1) (.slice (some ⟨ga', 0, none⟩) (L + ks.len) ca') (.slice (some ⟨gb', 0, none⟩) (L + ks'.len) cb') wB)) := by
  obtain ⟨i, j, e1, e2, hN, hne, hz1, hz2, o1, o2, hs1, hs2, hr, hb⟩ := h
  have l1 := Fo.len_le_size i
  have l2 := Fo.len_le_size ks
  have l3 := Fo.len_le_size j
  have l4 := Fo.len_le_size ks'
  have b1 := o1.lt
  have b2 := o2.lt
  have hbW : Below w.heap.size w W := hb.trans (hk.mono hb.size)
  have o1W := o1.below hk
  have o2W := o2.below hk
  obtain ⟨ga', ca', wA, r1, r2, r3, r4⟩ := o1W.append (hbW.mono hB) ty hs1 (by omega) hbW.size
  rw [e1] at r1
  have t2 := r2.lt
  have o2A := o2W.kept r3 (by intro e; injection e with e; exact hne e)
  have hbA : Below w.heap.size w wA := hbW.trans ⟨r3.os, r3.tape, r3.output, r3.size, fun q hq => Only.block r3 (Nat.lt_of_lt_of_le hq hbW.size) (by omega)⟩
  have hsz := r3.size
  refine ⟨ga', ca', wA, r1, r3, fun wA' hk' ty' => ?_⟩
  have hbA' : Below w.heap.size w wA' := hbA.trans (hk'.mono hbA.size)
  obtain ⟨gb', cb', wB, q1, q2, q3, q4⟩ := (o2A.below hk').append (hbA'.mono hB) ty' hs2 (by omega) hbA'.size
  rw [e2] at q1
  have hsz' := hk'.size
  have hsk := hk.size
  have hgag : ga' ≠ gb := by
    rcases r4 with rfl | rfl
    · exact hne
    · omega
  refine ⟨gb', cb', wB, q1, q3, fun hk1 hn1 hlen => ?_⟩
  have o1B := (r2.below hk').kept q3 (by intro e; injection e with e; exact hgag e.symm)
  refine ⟨i.app ks, j.app ks', ga', ca', gb', cb', by rw [Fo.app_len, e1], by rw [Fo.app_len, e2], by rw [Fo.app_size]; omega, by rw [Fo.app_len, Fo.app_len]; omega, ?_, by rw [Fo.app_size]; omega, by rw [Fo.app_size]; omega, o1B, q2, ?_, ?_⟩
  · rcases q4 with rfl | rfl
    · exact hgag
    · omega
  · rw [hr]
    subst hk1 hn1
    refine decide_eq_decide.2 ?_
    rw [Fo.app_eq (by omega), Fo.app_eq (by omega)]
    simp
  · exact hbA'.trans ⟨q3.os, q3.tape, q3.output, q3.size, fun q hq => Only.block q3 (Nat.lt_of_lt_of_le hq hbA'.size) (by omega)⟩
theorem SameS.below {w : World} {B : Nat} {res : Bool} {N L ga ca gb cb : Nat} {k1 n1 : Int} {ks : Fo} {a1 : Option Addr} {c1 : Nat} {k2 n2 : Int} {ks' : Fo} {a2 : Option Addr} {c2 : Nat} {wr : World} (h : SameS w B res N L ga ca gb cb k1 n1 ks a1 c1 k2 n2 ks' a2 c2 wr) : Below w.heap.size w wr := by
  obtain ⟨i, j, _, _, _, _, _, _, _, _, _, _, _, hb⟩ := h
  exact hb
theorem SameS.pos {w : World} {B : Nat} {res : Bool} {N L ga ca gb cb : Nat} {k1 n1 : Int} {ks : Fo} {a1 : Option Addr} {c1 : Nat} {k2 n2 : Int} {ks' : Fo} {a2 : Option Addr} {c2 : Nat} {wr : World} (h : SameS w B res N L ga ca gb cb k1 n1 ks a1 c1 k2 n2 ks' a2 c2 wr) : 1 ≤ N := by
  obtain ⟨i, j, _, _, hN, _⟩ := h
  omega
section
variable {f g : Fo} {k n k' n' : Int} {a a' : Option Addr} {cap cap' B : Nat} {w : World} {res : Bool}
theorem SameR.start1 (hsl : SlIn w (· < B) f a cap) (hsl' : SlIn w (· < B) g a' cap') (hf : f.size ≤ 1000000) (hg : g.size ≤ 1000000) (hr : res = decide (Fo.cons k n f .nil = Fo.cons k' n' g .nil)) :
    SameR w B res (f.size + 1) (.slice (some ⟨((w.alloc (.cells #[.int .i64 k, .int .i64 n, .slice a f.len cap] 45)).alloc (.cells #[.int .i64 k', .int .i64 n', .slice a' g.len cap'] 45)).heap.size, 0, none⟩) 1 1)
      (.slice (some ⟨(((w.alloc (.cells #[.int .i64 k, .int .i64 n, .slice a f.len cap] 45)).alloc (.cells #[.int .i64 k', .int .i64 n', .slice a' g.len cap'] 45)).alloc (.cells #[.int .i64 k, .int .i64 n, .slice a f.len cap] 45)).heap.size, 0, none⟩) 1 1)
      ((((w.alloc (.cells #[.int .i64 k, .int .i64 n, .slice a f.len cap] 45)).alloc (.cells #[.int .i64 k', .int .i64 n', .slice a' g.len cap'] 45)).alloc (.cells #[.int .i64 k, .int .i64 n, .slice a f.len cap] 45)).alloc (.cells #[.int .i64 k', .int .i64 n', .slice a' g.len cap'] 45)).drew := by
  refine ⟨.cons k n f .nil, .cons k' n' g .nil, _, 1, _, 1, rfl, rfl, by simp [Fo.size], rfl, by simp, by simp [Fo.size]; omega, by simp [Fo.size]; omega, ?_, ?_, hr, ?_⟩
  · exact ((Own.lit hsl (by simp; omega)).alloc _).drew
  · exact (Own.lit hsl' (by simp; omega)).drew
  · exact (((((Below.refl _ _).alloc (Nat.le_refl _) _).alloc (by simp) _).alloc (by simp; omega) _).alloc (by simp; omega) _).drew
theorem SameR.start2 (hsl : SlIn w (· < B) f a cap) (hsl' : SlIn w (· < B) g a' cap') (hf : f.size ≤ 1000000) (hg : g.size ≤ 1000000) (hr : res = decide (Fo.cons k n f .nil = Fo.cons k' n' g .nil)) :
    SameR w B res (f.size + 1) (.slice (some ⟨(((w.alloc (.cells #[.int .i64 k, .int .i64 n, .slice a f.len cap] 45)).alloc (.cells #[.int .i64 k', .int .i64 n', .slice a' g.len cap'] 45)).alloc (.cells #[.int .i64 k', .int .i64 n', .slice a' g.len cap'] 45)).heap.size, 0, none⟩) 1 1)
      (.slice (some ⟨((w.alloc (.cells #[.int .i64 k, .int .i64 n, .slice a f.len cap] 45)).alloc (.cells #[.int .i64 k', .int .i64 n', .slice a' g.len cap'] 45)).heap.size, 0, none⟩) 1 1)
      ((((w.alloc (.cells #[.int .i64 k, .int .i64 n, .slice a f.len cap] 45)).alloc (.cells #[.int .i64 k', .int .i64 n', .slice a' g.len cap'] 45)).alloc (.cells #[.int .i64 k', .int .i64 n', .slice a' g.len cap'] 45)).alloc (.cells #[.int .i64 k, .int .i64 n, .slice a f.len cap] 45)).drew := by
  refine ⟨.cons k n f .nil, .cons k' n' g .nil, _, 1, _, 1, rfl, rfl, by simp [Fo.size], rfl, by simp, by simp [Fo.size]; omega, by simp [Fo.size]; omega, ?_, ?_, hr, ?_⟩
  · exact (Own.lit hsl (by simp; omega)).drew
  · exact ((Own.lit hsl' (by simp; omega)).alloc _).drew
  · exact (((((Below.refl _ _).alloc (Nat.le_refl _) _).alloc (by simp) _).alloc (by simp; omega) _).alloc (by simp; omega) _).drew
end
set_option maxRecDepth 100000 in
set_option maxHeartbeats 4000000 in
theorem Same_any (f g : Fo) (k n k' n' : Int) (a a' : Option Addr) (cap cap' B : Nat) (w : World) (hsl : SlIn w (· < B) f a cap) (hsl' : SlIn w (· < B) g a' cap') (hB : B ≤ w.heap.size) (hf : f.size ≤ 1000000) (hg : g.size ≤ 1000000) :
    Calls Tryz.prog 85 #[.agg #[.int .i64 k, .int .i64 n, .slice a f.len cap], .agg #[.int .i64 k', .int .i64 n', .slice a' g.len cap']] w fun e w' => e = .returned (.bool (decide (k = k' ∧ n = n' ∧ f = g))) ∧ Below w.heap.size w w' := by
  generalize hres : decide (k = k' ∧ n = n' ∧ f = g) = res
  have HRES : Hid (res = decide (Fo.cons k n f .nil = Fo.cons k' n' g .nil)) := Lib.hid (by rw [← hres]; congr 1; simp)
  clear hres
  go_enter Tryz.func85, Tryz.ntmps85
  go_upto_region 1 with fail
  go_cut [5, 6] (fun s5 s6 wx => SameR w B res (f.size + 1) s5 s6 wx)
  case first =>
    go_region
    all_goals go_wp2_with fail
    all_goals go_meet
    · have h := SameR.start1 (k := k) (n := n) (k' := k') (n' := n') hsl hsl' hf hg HRES.out
      simpa using h
    · have h := SameR.start2 (k := k) (n := n) (k' := k') (n' := n') hsl hsl' hf hg HRES.out
      simpa using h
  case rest =>
    go_wp2_with fail
    go_loopg [5, 6] (f.size + 1) (fun N v5 v6 wr => SameR w B res N v5 v6 wr)
    case atStart => exact hcut
    case round =>
      rcases hrel.split with ⟨hres, hb, ga, ca, gb, cb, rfl, rfl⟩ | ⟨L, ga, ca, gb, cb, k1, n1, ks, a1, c1, k2, n2, ks', a2, c2, rfl, rfl, hL, hca, hcb, hca', hcb', hkl, hkl', hga, hgb, x0, x1, x2, y0, y1, y2, hS⟩
      · have HR := Lib.hid hres
        clear hrel hres
        go_wp2_with fail
        go_ret
        exact ⟨by rw [HR.out]; rfl, hb⟩
      · clear hrel
        have HS := Lib.hid hS
        clear hS
        go_upto_region 4 with fail
        go_cut [8, 9] (fun s8 s9 wx => ∃ X Y : Nat, s8 = .pointer (some ⟨X, 0, none⟩) ∧ s9 = .pointer (some ⟨Y, 0, none⟩) ∧ Hid (wx.heap[X]? = some (.cells #[.int .i64 k1, .int .i64 n1, .slice a1 ks.len c1] 45 (0, 0))) ∧ Hid (wx.heap[Y]? = some (.cells #[.int .i64 k2, .int .i64 n2, .slice a2 ks'.len c2] 45 (0, 0))) ∧ wr.heap.size ≤ X ∧ wr.heap.size ≤ Y ∧ Below wr.heap.size wr wx)
        case first =>
          go_region
          all_goals go_wp2_with fail
          all_goals go_meet
          · refine ⟨wr.heap.size, wr.heap.size + 1, rfl, rfl, Lib.hid ?_, Lib.hid ?_, Nat.le_refl _, Nat.le_succ _, (((Below.refl _ _).alloc (Nat.le_refl _) _).alloc (by simp) _).drew⟩
            · exact (heap_old _ _ (by simp)).trans (heap_new _ _)
            · exact heap_second _ _ _
          · refine ⟨wr.heap.size + 1, wr.heap.size, rfl, rfl, Lib.hid ?_, Lib.hid ?_, Nat.le_succ _, Nat.le_refl _, (((Below.refl _ _).alloc (Nat.le_refl _) _).alloc (by simp) _).drew⟩
            · exact heap_second _ _ _
            · exact (heap_old _ _ (by simp)).trans (heap_new _ _)
        case rest =>
          clear x0 x1 x2 y0 y1 y2
          obtain ⟨X, Y, rfl, rfl, hX, hY, hX', hY', hbx⟩ := hcut
          obtain ⟨x0, x1, x2⟩ := cells3 hX.out
          obtain ⟨y0, y1, y2⟩ := cells3 hY.out
          have hYlt := lt_of_block hY.out
          have hEnd := Lib.hid (HS.out.below.trans (hbx.mono HS.out.below.size))
          by_cases h1 : k1 = k2
          · by_cases h2 : n1 = n2
            · by_cases h3 : ks.len = ks'.len
              · obtain ⟨ga', ca', wA, hrA, hgA, hnext⟩ := HS.out.first hB hbx.drew 27
                have HN := Lib.hid hnext
                have hYga : Y ≠ ga := by omega
                have yA : wA.cell? ⟨Y, 2, none⟩ = some (.slice a2 ks'.len c2) := (World.cell?_of_block (w := wc.drew) (a := ⟨Y, 2, none⟩) (Only.block hgA hYlt hYga)).trans y2
                have hXlt := lt_of_block hX.out
                have hXga : X ≠ ga := by omega
                have xA : wA.cell? ⟨X, 2, none⟩ = some (.slice a1 ks.len c1) := (World.cell?_of_block (w := wc.drew) (a := ⟨X, 2, none⟩) (Only.block hgA hXlt hXga)).trans x2
                have hYA : Y < wA.heap.size := Nat.lt_of_lt_of_le hYlt hgA.size
                have hYgb : Y ≠ gb := by omega
                obtain ⟨gb', cb', wB, hrB, hgB, hfin⟩ := HN.out wA.drew (Below.refl _ _).drew 27
                have yB : wB.cell? ⟨Y, 2, none⟩ = some (.slice a2 ks'.len c2) := (World.cell?_of_block (w := wA.drew) (a := ⟨Y, 2, none⟩) (Only.block hgB hYA hYgb)).trans yA
                have HF := Lib.hid (hfin h1 h2 h3)
                have HA := Lib.hid hrA
                have HB := Lib.hid hrB
                have hpos := Lib.hid HS.out.pos
                have H3 := Lib.hid h3
                subst h1 h2
                have d3 : ((ks.len : Int) != (ks'.len : Int)) = false := by rw [h3]; simp
                clear h3 hnext hfin hgA hgB hrA hrB
                have b1 : (L : Int) ≤ (ca : Int) := by omega
                have b2 : (L : Int) ≤ (cb : Int) := by omega
                go_wp2_with fail
                go_region_held3 (fun w' => w'.cell? ⟨X, 2, none⟩ = some (.slice a1 ks.len c1)) (first | exact x2 | exact xA)
                  ((refine step_append (by rfl) _ _ _ (by rfl) (by rfl) (by rfl) HA.out ?_))
                go_wp2_with fail
                go_region_held3 (fun w' => w'.cell? ⟨Y, 2, none⟩ = some (.slice a2 ks'.len c2)) (first | exact yA | exact yB)
                  ((refine step_append (by rfl) _ _ _ (by rfl) (by rfl) (by rfl) HB.out ?_))
                go_wp2_with fail
                go_roundg (gk - 1)
                case rel => exact HF.out
                case measure => have := hpos.out; omega
              · have d3 : ((ks.len : Int) != (ks'.len : Int)) = true := by rw [bne_iff_ne]; omega
                have HR := Lib.hid (HS.out.no (.inr (.inr h3)))
                subst h1 h2
                clear h3
                go_wp2_with fail
                go_ret
                exact ⟨by rw [HR.out]; rfl, hEnd.out⟩
            · have d2 : (n1 != n2) = true := by rw [bne_iff_ne]; exact h2
              have HR := Lib.hid (HS.out.no (.inr (.inl h2)))
              subst h1
              clear h2
              go_wp2_with fail
              go_ret
              exact ⟨by rw [HR.out]; rfl, hEnd.out⟩
          · have d1 : (k1 != k2) = true := by rw [bne_iff_ne]; exact h1
            have HR := Lib.hid (HS.out.no (.inl h1))
            clear h1
            go_wp2_with fail
            go_ret
            exact ⟨by rw [HR.out]; rfl, hEnd.out⟩
end Go.Proofs.YtnfhpombnbpdcaaGreat
namespace Go.Proofs.YtnfhpombnbpdcaaGreat
open Go.RowKit
set_option maxRecDepth 100000 in
set_option maxHeartbeats 4000000 in
theorem teq_any (f g : Fo) (a a' : Option Addr) (cap cap' B : Nat) (w : World) (hsl : SlIn w (· < B) f a cap) (hsl' : SlIn w (· < B) g a' cap') (hB : B ≤ w.heap.size) (hf : f.size ≤ 1000000) (hg : g.size ≤ 1000000) :
    Calls Tryz.prog 84 #[.slice a f.len cap, .slice a' g.len cap', .func (.func 85) #[] #[]] w fun e w' => e = .returned (.bool (decide (f = g))) ∧ Below w.heap.size w w' := by
  have hlen := hsl.len
  by_cases hl : f.len = g.len
  · obtain ⟨L, HL⟩ : ∃ L, g.len = L := ⟨_, rfl⟩
    have H1 := Lib.hid (hl.trans HL)
    have HL := Lib.hid HL
    have d0 : ((f.len : Int) != (g.len : Int)) = false := by rw [hl]; simp
    rw [H1.out, HL.out] at d0 ⊢
    rw [H1.out] at hlen
    have HS := Lib.hid hsl
    have HS' := Lib.hid hsl'
    have HF := Lib.hid hf
    have HG := Lib.hid hg
    generalize hres : decide (f = g) = res
    have HR := Lib.hid hres
    clear hl hsl hsl' hf hg hres
    go_enter Tryz.func84, Tryz.ntmps84
    go_wp2_with fail
    go_loopw [17] (fun i wr => ∃ (j : Nat) (r r' : Fo), i = .int .i64 j ∧ Hid (j + r.len = L) ∧ Hid (r.len = r'.len) ∧ Hid (r.size ≤ f.size) ∧ Hid (r'.size ≤ g.size) ∧ Hid (∀ b o, a = some ⟨b, o, none⟩ → FoIn w (· < B) r b (o + j * 3)) ∧
        Hid (∀ b o, a' = some ⟨b, o, none⟩ → FoIn w (· < B) r' b (o + j * 3)) ∧ Hid (decide (r = r') = res) ∧ Hid (Below w.heap.size w wr)) (fun i _ => L - (intOf i).toNat)
    case atStart => exact ⟨0, f, g, rfl, Lib.hid (by have := H1.out; omega), Lib.hid (by rw [H1.out, HL.out]), Lib.hid (Nat.le_refl _), Lib.hid (Nat.le_refl _), Lib.hid (by rintro b o rfl; simpa using HS.out.foIn), Lib.hid (by rintro b o rfl; simpa using HS'.out.foIn), HR, Lib.hid (Below.refl _ _)⟩
    case round =>
      obtain ⟨j, r, r', rfl, hj, hjj, hrs, hrs', hin, hin', heq, hw⟩ := hrel
      match r, r', hj, hjj, hrs, hrs', hin, hin', heq with
      | .nil, .cons .., _, hjj, _, _, _, _, _ => have := hjj.out; simp [Fo.len] at this
      | .cons .., .nil, _, hjj, _, _, _, _, _ => have := hjj.out; simp [Fo.len] at this
      | .nil, .nil, hj, _, _, _, _, _, heq =>
        have hlt : ¬ (j : Int) < (L : Int) := by have := hj.out; simp [Fo.len] at this; omega
        have d' : decide ((j : Int) < (L : Int)) = false := by simpa using hlt
        go_wp2_with fail
        go_ret
        exact ⟨by rw [← heq.out]; rfl, hw.out⟩
      | .cons k1 n1 ks r1, .cons k2 n2 ks' r2, hj, hjj, hrs, hrs', hin, hin', heq =>
        have hlt : j < L := by have := hj.out; simp [Fo.len] at this; omega
        have hlt' : (j : Int) < (L : Int) := by omega
        have hwB : Below B w wr := hw.out.mono hB
        obtain ⟨b, o, rfl, hbB, _⟩ := HS.out.some (by rw [H1.out]; omega)
        obtain ⟨b', o', rfl, hbB', _⟩ := HS'.out.some (by rw [HL.out]; omega)
        obtain ⟨e0, e1, ⟨a1, cap1, e2, hsl1⟩, _⟩ := (hin.out b o rfl).below hwB _ _ _ hbB |>.first
        obtain ⟨e3, e4, ⟨a2, cap2, e5, hsl2⟩, _⟩ := (hin'.out b' o' rfl).below hwB _ _ _ hbB' |>.first
        have hbr : b' < wr.heap.size := by have := hw.out.size; omega
        have hwa := heap_old wr (.cells #[.int .i64 k1, .int .i64 n1, .slice a1 ks.len cap1] 45) hbr
        have e3' := (World.cell?_of_block (a := ⟨b', o' + j * 3, none⟩) hwa).trans e3
        have e4' := (World.cell?_of_block (a := ⟨b', o' + j * 3 + 1, none⟩) hwa).trans e4
        have e5' := (World.cell?_of_block (a := ⟨b', o' + j * 3 + 2, none⟩) hwa).trans e5
        have HC : Hid (∀ v, decide (k1 = k2 ∧ n1 = n2 ∧ ks = ks') = v → decide (Fo.cons k1 n1 ks r1 = Fo.cons k2 n2 ks' r2) = (v && decide (r1 = r2))) := Lib.hid (by
          rintro v rfl
          rw [Bool.eq_iff_iff]
          simp [and_assoc])
        have hBr : B ≤ wr.heap.size := Nat.le_trans hB hw.out.size
        have hk : Below wr.heap.size wr ((wr.alloc (.cells #[.int .i64 k1, .int .i64 n1, .slice a1 ks.len cap1] 45)).alloc (.cells #[.int .i64 k2, .int .i64 n2, .slice a2 ks'.len cap2] 45)) := ((Below.refl _ _).alloc (Nat.le_refl _) _).alloc (by simp) _
        have C1 := Lib.hid (Same_any ks ks' k1 n1 k2 n2 a1 a2 cap1 cap2 B ((wr.alloc (.cells #[.int .i64 k1, .int .i64 n1, .slice a1 ks.len cap1] 45)).alloc (.cells #[.int .i64 k2, .int .i64 n2, .slice a2 ks'.len cap2] 45)) (hsl1.below (hk.mono hBr)) (hsl2.below (hk.mono hBr)) (Nat.le_trans hBr hk.size) (by have h1 := hrs.out; have h2 := HF.out; simp only [Fo.size] at h1; omega) (by have h1 := hrs'.out; have h2 := HG.out; simp only [Fo.size] at h1; omega))
        have HK := Lib.hid hk
        generalize hv : decide (k1 = k2 ∧ n1 = n2 ∧ ks = ks') = v at C1
        have HC' := Lib.hid (HC.out v hv)
        clear HC hv hsl1 hsl2 hwa e3 e4 e5 hk
        go_wp2_with fail
        refine C1.out.mono ?_
        rintro e w2 ⟨rfl, hb2⟩
        have hE := Lib.hid (hw.out.trans ((Below.step HK.out hb2 (Nat.le_refl _)).mono hw.out.size))
        clear hb2 C1 HK
        cases v with
        | true =>
          go_wp2_with fail
          go_roundw
          case rel => exact ⟨j + 1, r1, r2, by go_num, Lib.hid (by have := hj.out; simp [Fo.len] at this; omega), Lib.hid (by have := hjj.out; simpa [Fo.len] using this), Lib.hid (by have := hrs.out; simp [Fo.size] at this; omega), Lib.hid (by have := hrs'.out; simp [Fo.size] at this; omega), Lib.hid (by rintro b1 o1 h; cases h; have := (hin.out b o rfl).2.2.2; rwa [show o + (j + 1) * 3 = o + j * 3 + 3 by omega]), Lib.hid (by rintro b1 o1 h; cases h; have := (hin'.out b' o' rfl).2.2.2; rwa [show o' + (j + 1) * 3 = o' + j * 3 + 3 by omega]), Lib.hid (by rw [← heq.out, HC'.out]; rfl), hE⟩
          case measure => simp [intOf]; omega
        | false =>
          go_wp2_with fail
          go_ret
          exact ⟨by rw [← heq.out, HC'.out]; rfl, hE.out⟩
  · rw [decide_eq_false (fun h => hl (by rw [h]))]
    have d0 : ((f.len : Int) != (g.len : Int)) = true := by rw [bne_iff_ne]; omega
    clear hl
    go_enter Tryz.func84, Tryz.ntmps84
    go_wp2_with fail
    go_ret
    exact ⟨rfl, Below.refl _ _⟩
set_option maxRecDepth 100000 in
set_option maxHeartbeats 4000000 in
theorem talike_any (f g : Fo) (k n k' n' : Int) (a a' ka ka' : Option Addr) (cap cap' kl kl' kc kc' B : Nat) (w : World) (hsl : SlIn w (· < B) f a cap) (hsl' : SlIn w (· < B) g a' cap') (hB : B ≤ w.heap.size) (hf : f.size ≤ 1000000) (hg : g.size ≤ 1000000) :
    Calls Tryz.prog 65 #[.agg #[.int .i64 k, .int .i64 n, .slice a f.len cap, .slice ka kl kc], .agg #[.int .i64 k', .int .i64 n', .slice a' g.len cap', .slice ka' kl' kc']] w fun e w' => e = .returned (.bool (decide (k = k' ∧ n = n' ∧ kl = kl' ∧ f = g))) ∧ Below w.heap.size w w' := by
  have hb : Below w.heap.size w ((w.alloc (.cells #[.int .i64 k, .int .i64 n, .slice a f.len cap, .slice ka kl kc] 30)).alloc (.cells #[.int .i64 k', .int .i64 n', .slice a' g.len cap', .slice ka' kl' kc'] 30)) := ((Below.refl _ _).alloc (Nat.le_refl _) _).alloc (by simp) _
  have HC := Lib.hid (teq_any f g a a' cap cap' B ((w.alloc (.cells #[.int .i64 k, .int .i64 n, .slice a f.len cap, .slice ka kl kc] 30)).alloc (.cells #[.int .i64 k', .int .i64 n', .slice a' g.len cap', .slice ka' kl' kc'] 30)) (hsl.below (hb.mono hB)) (hsl'.below (hb.mono hB)) (Nat.le_trans hB hb.size) hf hg)
  have HB := Lib.hid hb
  clear hb hsl hsl'
  by_cases h1 : k = k'
  · by_cases h2 : n = n'
    · by_cases h3 : kl = kl'
      · have HV : Hid (decide (k = k' ∧ n = n' ∧ kl = kl' ∧ f = g) = decide (f = g)) := Lib.hid (by simp [h1, h2, h3])
        generalize decide (k = k' ∧ n = n' ∧ kl = kl' ∧ f = g) = res at HV
        generalize decide (f = g) = x at HC HV
        have d1 : (k == k') = true := beq_iff_eq.2 h1
        have d2 : (n == n') = true := beq_iff_eq.2 h2
        have d3 : ((kl : Int) == (kl' : Int)) = true := beq_iff_eq.2 (by omega)
        clear h1 h2 h3
        go_enter Tryz.func65, Tryz.ntmps65
        go_wp2_with fail
        refine HC.out.mono ?_
        rintro e w2 ⟨rfl, hb2⟩
        have HE := Lib.hid (Below.step HB.out hb2 (Nat.le_refl _))
        clear hb2
        go_wp2_with fail
        go_ret
        exact ⟨by rw [HV.out]; rfl, HE.out⟩
      · rw [decide_eq_false (fun h => h3 h.2.2.1)]
        have d1 : (k == k') = true := beq_iff_eq.2 h1
        have d2 : (n == n') = true := beq_iff_eq.2 h2
        have d3 : ((kl : Int) == (kl' : Int)) = false := beq_eq_false_iff_ne.2 (by omega)
        clear h1 h2 h3
        go_enter Tryz.func65, Tryz.ntmps65
        go_wp2_with fail
        go_ret
        exact ⟨rfl, HB.out⟩
    · rw [decide_eq_false (fun h => h2 h.2.1)]
      have d1 : (k == k') = true := beq_iff_eq.2 h1
      have d2 : (n == n') = false := beq_eq_false_iff_ne.2 h2
      clear h1 h2
      go_enter Tryz.func65, Tryz.ntmps65
      go_wp2_with fail
      go_ret
      exact ⟨rfl, HB.out⟩
  · rw [decide_eq_false (fun h => h1 h.1)]
    have d1 : (k == k') = false := beq_eq_false_iff_ne.2 h1
    clear h1
    go_enter Tryz.func65, Tryz.ntmps65
    go_wp2_with fail
    go_ret
    exact ⟨rfl, HB.out⟩
end Go.Proofs.YtnfhpombnbpdcaaGreat
namespace Go.Proofs.YtnfhpombnbpdcaaGreat
open Go.RowKit
def TSR (w : World) (B : Nat) (res : Bool) (N : Nat) (s5 s6 : Value) (wr : World) : Prop :=
  ∃ (F G : Ft) (ga ca gb cb : Nat), s5 = .slice (some ⟨ga, 0, none⟩) F.len ca ∧ s6 = .slice (some ⟨gb, 0, none⟩) G.len cb ∧ F.size = N ∧ F.len = G.len ∧ ga ≠ gb ∧ (F.size ≤ 1000001 ∧ F.lvsz 1000000) ∧ (G.size ≤ 1000001 ∧ G.lvsz 1000000) ∧
    TOwn w B wr w.heap.size ga ca F ∧ TOwn w B wr w.heap.size gb cb G ∧ res = decide (F = G) ∧ Below w.heap.size w wr
def TSS (w : World) (B : Nat) (res : Bool) (N L ga ca gb cb : Nat) (k1 n1 : Int) (l1 : Fo) (x1 : Option Addr) (d1 : Nat) (ks : Ft) (a1 : Option Addr) (c1 : Nat) (k2 n2 : Int) (l2 : Fo) (x2 : Option Addr) (d2 : Nat) (ks' : Ft) (a2 : Option Addr) (c2 : Nat) (wr : World) : Prop :=
  ∃ i j : Ft, i.len = L ∧ j.len = L ∧ i.size + ks.size + 1 = N ∧ ga ≠ gb ∧ (i.size + ks.size ≤ 1000000 ∧ i.lvsz 1000000 ∧ ks.lvsz 1000000 ∧ l1.size ≤ 1000000) ∧ (j.size + ks'.size ≤ 1000000 ∧ j.lvsz 1000000 ∧ ks'.lvsz 1000000 ∧ l2.size ≤ 1000000) ∧ TOwn w B wr w.heap.size ga ca i ∧ TOwn w B wr w.heap.size gb cb j ∧
    SlIn w (· < B) l1 x1 d1 ∧ SlIn w (· < B) l2 x2 d2 ∧ TlIn w (· < B) ks a1 c1 ∧ TlIn w (· < B) ks' a2 c2 ∧
    res = decide (i.app (.cons k1 n1 l1 ks .nil) = j.app (.cons k2 n2 l2 ks' .nil)) ∧ Below w.heap.size w wr
theorem TSR.split {w : World} {B : Nat} {res : Bool} {N : Nat} {s5 s6 : Value} {wr : World} (h : TSR w B res N s5 s6 wr) :
    (res = true ∧ Below w.heap.size w wr ∧ ∃ ga ca gb cb, s5 = .slice (some ⟨ga, 0, none⟩) 0 ca ∧ s6 = .slice (some ⟨gb, 0, none⟩) 0 cb) ∨
    ∃ (L ga ca gb cb : Nat) (k1 n1 : Int) (l1 : Fo) (x1 : Option Addr) (d1 : Nat) (ks : Ft) (a1 : Option Addr) (c1 : Nat) (k2 n2 : Int) (l2 : Fo) (x2 : Option Addr) (d2 : Nat) (ks' : Ft) (a2 : Option Addr) (c2 : Nat), s5 = .slice (some ⟨ga, 0, none⟩) (L + 1) ca ∧ s6 = .slice (some ⟨gb, 0, none⟩) (L + 1) cb ∧
      L ≤ 1000000 ∧ L + 1 ≤ ca ∧ L + 1 ≤ cb ∧ ca ≤ 9223372036854775807 ∧ cb ≤ 9223372036854775807 ∧ ks.len ≤ 1000000 ∧ ks'.len ≤ 1000000 ∧ ga < wr.heap.size ∧ gb < wr.heap.size ∧
      (wr.cell? ⟨ga, L * 4, none⟩ = some (.int .i64 k1) ∧ wr.cell? ⟨ga, L * 4 + 1, none⟩ = some (.int .i64 n1) ∧ wr.cell? ⟨ga, L * 4 + 2, none⟩ = some (.slice x1 l1.len d1) ∧ wr.cell? ⟨ga, L * 4 + 3, none⟩ = some (.slice a1 ks.len c1)) ∧
      (wr.cell? ⟨gb, L * 4, none⟩ = some (.int .i64 k2) ∧ wr.cell? ⟨gb, L * 4 + 1, none⟩ = some (.int .i64 n2) ∧ wr.cell? ⟨gb, L * 4 + 2, none⟩ = some (.slice x2 l2.len d2) ∧ wr.cell? ⟨gb, L * 4 + 3, none⟩ = some (.slice a2 ks'.len c2)) ∧
      TSS w B res N L ga ca gb cb k1 n1 l1 x1 d1 ks a1 c1 k2 n2 l2 x2 d2 ks' a2 c2 wr := by
  obtain ⟨F, G, ga, ca, gb, cb, rfl, rfl, hN, hl, hne, ⟨h1, hv1⟩, ⟨h2, hv2⟩, o1, o2, hr, hb⟩ := h
  rcases Nat.eq_zero_or_pos F.len with h0 | h0
  · have e1 := Ft.len_zero h0
    have e2 := Ft.len_zero (f := G) (by omega)
    subst e1 e2
    exact .inl ⟨hr, hb, ga, ca, gb, cb, rfl, rfl⟩
  · obtain ⟨i, k1, n1, l1, ks, rfl⟩ := Ft.snoc h0
    obtain ⟨j, k2, n2, l2, ks', rfl⟩ := Ft.snoc (f := G) (by omega)
    obtain ⟨u1, v1, a1, c1, x0, x1, x2, x3, hl1, hs1⟩ := o1.last
    obtain ⟨u2, v2, a2, c2, y0, y1, y2, y3, hl2, hs2⟩ := o2.last
    have hi : (i.app (.cons k1 n1 l1 ks .nil)).len = i.len + 1 := by rw [Ft.app_len]; rfl
    have hj : (j.app (.cons k2 n2 l2 ks' .nil)).len = j.len + 1 := by rw [Ft.app_len]; rfl
    have hij : j.len = i.len := by omega
    have z1 : (i.app (.cons k1 n1 l1 ks .nil)).size = i.size + ks.size + 1 := by rw [Ft.app_size]; simp [Ft.size]; omega
    have z2 : (j.app (.cons k2 n2 l2 ks' .nil)).size = j.size + ks'.size + 1 := by rw [Ft.app_size]; simp [Ft.size]; omega
    have q1 := o1.cap
    have q2 := o2.cap
    have m1 := Ft.len_le_size i
    have m2 := Ft.len_le_size ks
    have m3 := Ft.len_le_size ks'
    rw [Ft.lvsz_app] at hv1 hv2
    refine .inr ⟨i.len, ga, ca, gb, cb, k1, n1, l1, u1, v1, ks, a1, c1, k2, n2, l2, u2, v2, ks', a2, c2, by rw [hi], by rw [hj, hij], by omega, by omega, by omega, q1.2, q2.2, by omega, by omega, o1.lt.2, o2.lt.2, ⟨x0, x1, x2, x3⟩, ⟨by rw [← hij]; exact y0, by rw [← hij]; exact y1, by rw [← hij]; exact y2, by rw [← hij]; exact y3⟩, ?_⟩
    exact ⟨i, j, rfl, hij, by omega, hne, ⟨by omega, hv1.1, hv1.2.2.1, hv1.2.1⟩, ⟨by omega, hv2.1, hv2.2.2.1, hv2.2.1⟩, o1.cut, o2.cut, hl1, hl2, hs1, hs2, hr, hb⟩
section
variable {w : World} {B : Nat} {res : Bool} {N L ga ca gb cb : Nat} {k1 n1 : Int} {l1 : Fo} {x1 : Option Addr} {d1 : Nat} {ks : Ft} {a1 : Option Addr} {c1 : Nat} {k2 n2 : Int} {l2 : Fo} {x2 : Option Addr} {d2 : Nat} {ks' : Ft} {a2 : Option Addr} {c2 : Nat} {wr W : World}
theorem TSS.no (h : TSS w B res N L ga ca gb cb k1 n1 l1 x1 d1 ks a1 c1 k2 n2 l2 x2 d2 ks' a2 c2 wr)
    (hne : decide (k1 = k2 ∧ n1 = n2 ∧ ks.len = ks'.len ∧ l1 = l2) = false) : res = false := by
  obtain ⟨i, j, e1, e2, _, _, _, _, _, _, _, _, _, _, hr, _⟩ := h
  rw [hr]
  apply decide_eq_false
  rw [Ft.app_eq (by omega)]
  rintro ⟨_, h⟩
  injection h with h1 h2 h3 h4 _
  subst h1 h2 h3 h4
  simp at hne
theorem TSS.below (h : TSS w B res N L ga ca gb cb k1 n1 l1 x1 d1 ks a1 c1 k2 n2 l2 x2 d2 ks' a2 c2 wr) : Below w.heap.size w wr := by
  obtain ⟨i, j, _, _, _, _, _, _, _, _, _, _, _, _, _, hb⟩ := h
  exact hb
theorem TSS.pos (h : TSS w B res N L ga ca gb cb k1 n1 l1 x1 d1 ks a1 c1 k2 n2 l2 x2 d2 ks' a2 c2 wr) : 1 ≤ N := by
  obtain ⟨i, j, _, _, hN, _⟩ := h
  omega
theorem TSS.lev (h : TSS w B res N L ga ca gb cb k1 n1 l1 x1 d1 ks a1 c1 k2 n2 l2 x2 d2 ks' a2 c2 wr) (hB : B ≤ w.heap.size) (hk : Below wr.heap.size wr W) : SlIn W (· < B) l1 x1 d1 ∧ SlIn W (· < B) l2 x2 d2 ∧ B ≤ W.heap.size ∧ l1.size ≤ 1000000 ∧ l2.size ≤ 1000000 := by
  obtain ⟨i, j, _, _, _, _, ⟨_, _, _, m1⟩, ⟨_, _, _, m2⟩, _, _, hl1, hl2, _, _, _, hb⟩ := h
  have hbW : Below w.heap.size w W := hb.trans (hk.mono hb.size)
  exact ⟨hl1.below (hbW.mono hB), hl2.below (hbW.mono hB), Nat.le_trans hB hbW.size, m1, m2⟩
theorem TSS.first (h : TSS w B res N L ga ca gb cb k1 n1 l1 x1 d1 ks a1 c1 k2 n2 l2 x2 d2 ks' a2 c2 wr)
    (hB : B ≤ w.heap.size) (hk : Below wr.heap.size wr W) (ty : TypeId) :
    ∃ ga' ca' wA, (Builtin.append_ #[28, 28] ty #[.slice (some ⟨ga, 0, none⟩) L ca, .slice a1 ks.len c1]).run Tryz.prog W = .ok (.slice (some ⟨ga', 0, none⟩) (L + ks.len) ca') wA ∧ W.grownBy wA (some ga) ∧
      (∀ wA', Below wA.heap.size wA wA' → ∀ ty, ∃ gb' cb' wB, (Builtin.append_ #[28, 28] ty #[.slice (some ⟨gb, 0, none⟩) L cb, .slice a2 ks'.len c2]).run Tryz.prog wA' = .ok (.slice (some ⟨gb', 0, none⟩) (L + ks'.len) cb') wB ∧ wA'.grownBy wB (some gb) ∧
        (decide (k1 = k2 ∧ n1 = n2 ∧ ks.len = ks'.len ∧ l1 = l2) = true → TSR w B res (N - 1) (.slice (some ⟨ga', 0, none⟩) (L + ks.len) ca') (.slice (some ⟨gb', 0, none⟩) (L + ks'.len) cb') wB)) := by
  obtain ⟨i, j, e1, e2, hN, hne, ⟨hz1, hv1, hv1', _⟩, ⟨hz2, hv2, hv2', _⟩, o1, o2, _, _, hs1, hs2, hr, hb⟩ := h
  have m1 := Ft.len_le_size i
  have m2 := Ft.len_le_size ks
  have m3 := Ft.len_le_size j
  have m4 := Ft.len_le_size ks'
  have b1 := o1.lt
  have b2 := o2.lt
  have hbW : Below w.heap.size w W := hb.trans (hk.mono hb.size)
  have o1W := o1.below hk
  have o2W := o2.below hk
  obtain ⟨ga', ca', wA, r1, r2, r3, r4⟩ := o1W.append (hbW.mono hB) ty hs1 (by omega) hbW.size
  rw [e1] at r1
  have t2 := r2.lt
  have o2A := o2W.kept r3 (by intro e; injection e with e; exact hne e)
  have hbA : Below w.heap.size w wA := hbW.trans ⟨r3.os, r3.tape, r3.output, r3.size, fun q hq => Only.block r3 (Nat.lt_of_lt_of_le hq hbW.size) (by omega)⟩
  have hsz := r3.size
  refine ⟨ga', ca', wA, r1, r3, fun wA' hk' ty' => ?_⟩
  have hbA' : Below w.heap.size w wA' := hbA.trans (hk'.mono hbA.size)
  obtain ⟨gb', cb', wB, q1, q2, q3, q4⟩ := (o2A.below hk').append (hbA'.mono hB) ty' hs2 (by omega) hbA'.size
  rw [e2] at q1
  have hsz' := hk'.size
  have hsk := hk.size
  have hgag : ga' ≠ gb := by
    rcases r4 with rfl | rfl
    · exact hne
    · omega
  refine ⟨gb', cb', wB, q1, q3, fun heq => ?_⟩
  obtain ⟨hk1, hn1, hlen, hll⟩ := of_decide_eq_true heq
  have o1B := (r2.below hk').kept q3 (by intro e; injection e with e; exact hgag e.symm)
  refine ⟨i.app ks, j.app ks', ga', ca', gb', cb', by rw [Ft.app_len, e1], by rw [Ft.app_len, e2], by rw [Ft.app_size]; omega, by rw [Ft.app_len, Ft.app_len]; omega, ?_, ⟨by rw [Ft.app_size]; omega, Ft.lvsz_app.2 ⟨hv1, hv1'⟩⟩, ⟨by rw [Ft.app_size]; omega, Ft.lvsz_app.2 ⟨hv2, hv2'⟩⟩, o1B, q2, ?_, ?_⟩
  · rcases q4 with rfl | rfl
    · exact hgag
    · omega
  · rw [hr]
    subst hk1 hn1 hll
    refine decide_eq_decide.2 ?_
    rw [Ft.app_eq (by omega), Ft.app_eq (by omega)]
    simp
  · exact hbA'.trans ⟨q3.os, q3.tape, q3.output, q3.size, fun q hq => Only.block q3 (Nat.lt_of_lt_of_le hq hbA'.size) (by omega)⟩
end
section
variable {f g : Ft} {k n k' n' : Int} {ls ls' : Fo} {la la' a a' : Option Addr} {lc lc' cap cap' B : Nat} {w : World} {res : Bool}
theorem TSR.start1 (hl : SlIn w (· < B) ls la lc) (hl' : SlIn w (· < B) ls' la' lc') (hsl : TlIn w (· < B) f a cap) (hsl' : TlIn w (· < B) g a' cap') (hf : f.size ≤ 1000000 ∧ f.lvsz 1000000 ∧ ls.size ≤ 1000000) (hg : g.size ≤ 1000000 ∧ g.lvsz 1000000 ∧ ls'.size ≤ 1000000) (hr : res = decide (Ft.cons k n ls f .nil = Ft.cons k' n' ls' g .nil)) :
    TSR w B res (f.size + 1) (.slice (some ⟨((w.alloc (.cells #[.int .i64 k, .int .i64 n, .slice la ls.len lc, .slice a f.len cap] 30)).alloc (.cells #[.int .i64 k', .int .i64 n', .slice la' ls'.len lc', .slice a' g.len cap'] 30)).heap.size, 0, none⟩) 1 1)
      (.slice (some ⟨(((w.alloc (.cells #[.int .i64 k, .int .i64 n, .slice la ls.len lc, .slice a f.len cap] 30)).alloc (.cells #[.int .i64 k', .int .i64 n', .slice la' ls'.len lc', .slice a' g.len cap'] 30)).alloc (.cells #[.int .i64 k, .int .i64 n, .slice la ls.len lc, .slice a f.len cap] 30)).heap.size, 0, none⟩) 1 1)
      ((((w.alloc (.cells #[.int .i64 k, .int .i64 n, .slice la ls.len lc, .slice a f.len cap] 30)).alloc (.cells #[.int .i64 k', .int .i64 n', .slice la' ls'.len lc', .slice a' g.len cap'] 30)).alloc (.cells #[.int .i64 k, .int .i64 n, .slice la ls.len lc, .slice a f.len cap] 30)).alloc (.cells #[.int .i64 k', .int .i64 n', .slice la' ls'.len lc', .slice a' g.len cap'] 30)).drew := by
  refine ⟨.cons k n ls f .nil, .cons k' n' ls' g .nil, _, 1, _, 1, rfl, rfl, by simp [Ft.size], rfl, by simp, ⟨by simp [Ft.size]; omega, hf.2.2, hf.2.1, trivial⟩, ⟨by simp [Ft.size]; omega, hg.2.2, hg.2.1, trivial⟩, ?_, ?_, hr, ?_⟩
  · exact ((TOwn.lit hl hsl (by simp; omega)).alloc _).drew
  · exact (TOwn.lit hl' hsl' (by simp; omega)).drew
  · exact (((((Below.refl _ _).alloc (Nat.le_refl _) _).alloc (by simp) _).alloc (by simp; omega) _).alloc (by simp; omega) _).drew
theorem TSR.start2 (hl : SlIn w (· < B) ls la lc) (hl' : SlIn w (· < B) ls' la' lc') (hsl : TlIn w (· < B) f a cap) (hsl' : TlIn w (· < B) g a' cap') (hf : f.size ≤ 1000000 ∧ f.lvsz 1000000 ∧ ls.size ≤ 1000000) (hg : g.size ≤ 1000000 ∧ g.lvsz 1000000 ∧ ls'.size ≤ 1000000) (hr : res = decide (Ft.cons k n ls f .nil = Ft.cons k' n' ls' g .nil)) :
    TSR w B res (f.size + 1) (.slice (some ⟨(((w.alloc (.cells #[.int .i64 k, .int .i64 n, .slice la ls.len lc, .slice a f.len cap] 30)).alloc (.cells #[.int .i64 k', .int .i64 n', .slice la' ls'.len lc', .slice a' g.len cap'] 30)).alloc (.cells #[.int .i64 k', .int .i64 n', .slice la' ls'.len lc', .slice a' g.len cap'] 30)).heap.size, 0, none⟩) 1 1)
      (.slice (some ⟨((w.alloc (.cells #[.int .i64 k, .int .i64 n, .slice la ls.len lc, .slice a f.len cap] 30)).alloc (.cells #[.int .i64 k', .int .i64 n', .slice la' ls'.len lc', .slice a' g.len cap'] 30)).heap.size, 0, none⟩) 1 1)
      ((((w.alloc (.cells #[.int .i64 k, .int .i64 n, .slice la ls.len lc, .slice a f.len cap] 30)).alloc (.cells #[.int .i64 k', .int .i64 n', .slice la' ls'.len lc', .slice a' g.len cap'] 30)).alloc (.cells #[.int .i64 k', .int .i64 n', .slice la' ls'.len lc', .slice a' g.len cap'] 30)).alloc (.cells #[.int .i64 k, .int .i64 n, .slice la ls.len lc, .slice a f.len cap] 30)).drew := by
  refine ⟨.cons k n ls f .nil, .cons k' n' ls' g .nil, _, 1, _, 1, rfl, rfl, by simp [Ft.size], rfl, by simp, ⟨by simp [Ft.size]; omega, hf.2.2, hf.2.1, trivial⟩, ⟨by simp [Ft.size]; omega, hg.2.2, hg.2.1, trivial⟩, ?_, ?_, hr, ?_⟩
  · exact (TOwn.lit hl hsl (by simp; omega)).drew
  · exact ((TOwn.lit hl' hsl' (by simp; omega)).alloc _).drew
  · exact (((((Below.refl _ _).alloc (Nat.le_refl _) _).alloc (by simp) _).alloc (by simp; omega) _).alloc (by simp; omega) _).drew
end
set_option maxRecDepth 100000 in
set_option maxHeartbeats 4000000 in
theorem tSame_any (f g : Ft) (k n k' n' : Int) (ls ls' : Fo) (la la' a a' : Option Addr) (lc lc' cap cap' B : Nat) (w : World) (hl : SlIn w (· < B) ls la lc) (hl' : SlIn w (· < B) ls' la' lc') (hsl : TlIn w (· < B) f a cap) (hsl' : TlIn w (· < B) g a' cap') (hB : B ≤ w.heap.size)
    (hf : f.size ≤ 1000000 ∧ f.lvsz 1000000 ∧ ls.size ≤ 1000000) (hg : g.size ≤ 1000000 ∧ g.lvsz 1000000 ∧ ls'.size ≤ 1000000) :
    Calls Tryz.prog 42 #[.agg #[.int .i64 k, .int .i64 n, .slice la ls.len lc, .slice a f.len cap], .agg #[.int .i64 k', .int .i64 n', .slice la' ls'.len lc', .slice a' g.len cap']] w fun e w' => e = .returned (.bool (decide (Ft.cons k n ls f .nil = Ft.cons k' n' ls' g .nil))) ∧ Below w.heap.size w w' := by
  generalize hres : decide (Ft.cons k n ls f .nil = Ft.cons k' n' ls' g .nil) = res
  have HRES : Hid (res = decide (Ft.cons k n ls f .nil = Ft.cons k' n' ls' g .nil)) := Lib.hid hres.symm
  have HF := Lib.hid hf
  have HG := Lib.hid hg
  clear hres hf hg
  go_enter Tryz.func42, Tryz.ntmps42
  go_upto_region 1 with fail
  go_cut [5, 6] (fun s5 s6 wx => TSR w B res (f.size + 1) s5 s6 wx)
  case first =>
    go_region
    all_goals go_wp2_with fail
    all_goals go_meet
    · have h := TSR.start1 (k := k) (n := n) (k' := k') (n' := n') hl hl' hsl hsl' HF.out HG.out HRES.out
      simpa using h
    · have h := TSR.start2 (k := k) (n := n) (k' := k') (n' := n') hl hl' hsl hsl' HF.out HG.out HRES.out
      simpa using h
  case rest =>
    go_wp2_with fail
    go_loopg [5, 6] (f.size + 1) (fun N v5 v6 wr => TSR w B res N v5 v6 wr)
    case atStart => exact hcut
    case round =>
      rcases hrel.split with ⟨hres, hb, ga, ca, gb, cb, rfl, rfl⟩ | ⟨L, ga, ca, gb, cb, k1, n1, l1, u1, v1, ks, a1, c1, k2, n2, l2, u2, v2, ks', a2, c2, rfl, rfl, hL, hca, hcb, hca', hcb', hkl, hkl', hga, hgb, ⟨x0, x1, x2, x3⟩, ⟨y0, y1, y2, y3⟩, hS⟩
      · have HR := Lib.hid hres
        clear hrel hres
        go_wp2_with fail
        go_ret
        exact ⟨by rw [HR.out]; rfl, hb⟩
      · clear hrel
        have HS := Lib.hid hS
        clear hS
        go_upto_region 4 with fail
        go_cut [8, 9] (fun s8 s9 wx => ∃ X Y : Nat, s8 = .pointer (some ⟨X, 0, none⟩) ∧ s9 = .pointer (some ⟨Y, 0, none⟩) ∧ Hid (wx.heap[X]? = some (.cells #[.int .i64 k1, .int .i64 n1, .slice u1 l1.len v1, .slice a1 ks.len c1] 30 (0, 0))) ∧ Hid (wx.heap[Y]? = some (.cells #[.int .i64 k2, .int .i64 n2, .slice u2 l2.len v2, .slice a2 ks'.len c2] 30 (0, 0))) ∧ wr.heap.size ≤ X ∧ wr.heap.size ≤ Y ∧ Below wr.heap.size wr wx)
        case first =>
          go_region
          all_goals go_wp2_with fail
          all_goals go_meet
          · refine ⟨wr.heap.size, wr.heap.size + 1, rfl, rfl, Lib.hid ?_, Lib.hid ?_, Nat.le_refl _, Nat.le_succ _, (((Below.refl _ _).alloc (Nat.le_refl _) _).alloc (by simp) _).drew⟩
            · exact (heap_old _ _ (by simp)).trans (heap_new _ _)
            · exact heap_second _ _ _
          · refine ⟨wr.heap.size + 1, wr.heap.size, rfl, rfl, Lib.hid ?_, Lib.hid ?_, Nat.le_succ _, Nat.le_refl _, (((Below.refl _ _).alloc (Nat.le_refl _) _).alloc (by simp) _).drew⟩
            · exact heap_second _ _ _
            · exact (heap_old _ _ (by simp)).trans (heap_new _ _)
        case rest =>
          clear x0 x1 x2 x3 y0 y1 y2 y3
          obtain ⟨X, Y, rfl, rfl, hX, hY, hX', hY', hbx⟩ := hcut
          obtain ⟨x0, x1, x2, x3⟩ := cells4 hX.out
          obtain ⟨y0, y1, y2, y3⟩ := cells4 hY.out
          have hXlt := lt_of_block hX.out
          have hYlt := lt_of_block hY.out
          obtain ⟨t1, t2, t3, t4, t5⟩ := HS.out.lev hB hbx
          have HAL := Lib.hid (talike_any l1 l2 k1 n1 k2 n2 u1 u2 a1 a2 v1 v2 ks.len ks'.len c1 c2 B wc t1 t2 t3 t4 t5)
          have HNO := Lib.hid (TSS.no HS.out)
          clear t1 t2 t3 t4 t5
          have HBX := Lib.hid hbx
          have HFIRST : Hid (∀ W, Below wr.heap.size wr W → ∀ ty, _) := Lib.hid (fun W h ty => TSS.first (W := W) HS.out hB h ty)
          have HBEL := Lib.hid HS.out.below
          have hpos := Lib.hid HS.out.pos
          generalize hv : decide (k1 = k2 ∧ n1 = n2 ∧ ks.len = ks'.len ∧ l1 = l2) = v at HAL HNO HFIRST
          have HV : Hid (v = true → ks.len = ks'.len) := Lib.hid (fun h => by rw [h] at hv; exact (of_decide_eq_true hv).2.2.1)
          clear hv hbx HS
          go_wp2_with fail
          refine HAL.out.mono ?_
          rintro e w4 ⟨rfl, hb4⟩
          have hbx4 : Below wr.heap.size wr w4 := HBX.out.trans (hb4.mono HBX.out.size)
          have hEnd := Lib.hid (HBEL.out.trans (hbx4.mono HBEL.out.size))
          cases v with
          | false =>
            have HR := Lib.hid (HNO.out rfl)
            clear hb4 HAL HNO HFIRST HV
            go_wp2_with fail
            go_ret
            exact ⟨by rw [HR.out]; rfl, hEnd.out⟩
          | true =>
            have h3 := HV.out rfl
            have x3' := (bcell hb4 X 3 hXlt).trans x3
            have y3' := (bcell hb4 Y 3 hYlt).trans y3
            have hX4 : X < w4.heap.size := Nat.lt_of_lt_of_le hXlt hb4.size
            have hY4 : Y < w4.heap.size := Nat.lt_of_lt_of_le hYlt hb4.size
            obtain ⟨ga', ca', wA, hrA, hgA, hnext⟩ := HFIRST.out w4.drew hbx4.drew 28
            have HN := Lib.hid hnext
            have hYga : Y ≠ ga := by omega
            have hXga : X ≠ ga := by omega
            have hYgb : Y ≠ gb := by omega
            have yA : wA.cell? ⟨Y, 3, none⟩ = some (.slice a2 ks'.len c2) := (World.cell?_of_block (w := w4.drew) (a := ⟨Y, 3, none⟩) (Only.block hgA hY4 hYga)).trans y3'
            have xA : wA.cell? ⟨X, 3, none⟩ = some (.slice a1 ks.len c1) := (World.cell?_of_block (w := w4.drew) (a := ⟨X, 3, none⟩) (Only.block hgA hX4 hXga)).trans x3'
            have hYA : Y < wA.heap.size := Nat.lt_of_lt_of_le hY4 hgA.size
            obtain ⟨gb', cb', wB, hrB, hgB, hfin⟩ := HN.out wA.drew (Below.refl _ _).drew 28
            have yB : wB.cell? ⟨Y, 3, none⟩ = some (.slice a2 ks'.len c2) := (World.cell?_of_block (w := wA.drew) (a := ⟨Y, 3, none⟩) (Only.block hgB hYA hYgb)).trans yA
            have HF2 := Lib.hid (hfin rfl)
            have HA := Lib.hid hrA
            have HB2 := Lib.hid hrB
            have b1 : (L : Int) ≤ (ca : Int) := by omega
            have b2 : (L : Int) ≤ (cb : Int) := by omega
            clear h3 hnext hfin hgA hgB hrA hrB HN x0 x1 x2 x3 y0 y1 y2 y3 hb4 HAL HNO HFIRST HV hX hY hbx4
            go_wp2_with fail
            go_region_held3 (fun w' => w'.cell? ⟨X, 3, none⟩ = some (.slice a1 ks.len c1)) (first | exact x3' | exact xA)
              ((refine step_append (by rfl) _ _ _ (by rfl) (by rfl) (by rfl) HA.out ?_))
            go_wp2_with fail
            go_region_held3 (fun w' => w'.cell? ⟨Y, 3, none⟩ = some (.slice a2 ks'.len c2)) (first | exact yA | exact yB)
              ((refine step_append (by rfl) _ _ _ (by rfl) (by rfl) (by rfl) HB2.out ?_))
            go_wp2_with fail
            go_roundg (gk - 1)
            case rel => exact HF2.out
            case measure => have := hpos.out; omega
end Go.Proofs.YtnfhpombnbpdcaaGreat
namespace Go.Proofs.YtnfhpombnbpdcaaGreat
open Go.RowKit
set_option maxRecDepth 100000 in
set_option maxHeartbeats 1000000 in
theorem teq0 (a : Option Addr) (L c : Nat) (hL : L ≠ 0) (w : World) : Calls Tryz.prog 84 #[.slice a L c, .slice none 0 0, .func (.func 85) #[] #[]] w fun e w' => e = .returned (.bool false) ∧ w' = w := by
  have d : ((L : Int) != 0) = true := by rw [bne_iff_ne]; omega
  go_enter Tryz.func84, Tryz.ntmps84
  go_wp2_with fail
  go_ret
  exact ⟨rfl, rfl⟩
set_option maxRecDepth 100000 in
set_option maxHeartbeats 4000000 in
theorem talike0 (k n : Int) (a ka : Option Addr) (L c kl kc : Nat) (h : ¬ (k = 0 ∧ n = 0 ∧ kl = 0 ∧ L = 0)) (w : World) :
    Calls Tryz.prog 65 #[.agg #[.int .i64 k, .int .i64 n, .slice a L c, .slice ka kl kc], .agg #[.int .i64 0, .int .i64 0, .slice none 0 0, .slice none 0 0]] w fun e w' => e = .returned (.bool false) ∧ Below w.heap.size w w' := by
  have HB : Hid (Below w.heap.size w ((w.alloc (.cells #[.int .i64 k, .int .i64 n, .slice a L c, .slice ka kl kc] 30)).alloc (.cells #[.int .i64 0, .int .i64 0, .slice none 0 0, .slice none 0 0] 30))) := Lib.hid (((Below.refl _ _).alloc (Nat.le_refl _) _).alloc (by simp) _)
  by_cases h1 : k = 0
  · by_cases h2 : n = 0
    · by_cases h3 : kl = 0
      · have hL : L ≠ 0 := fun e => h ⟨h1, h2, h3, e⟩
        have HC := Lib.hid (fun W => teq0 a L c hL W)
        have d1 : (k == 0) = true := beq_iff_eq.2 h1
        have d2 : (n == 0) = true := beq_iff_eq.2 h2
        have d3 : ((kl : Int) == 0) = true := beq_iff_eq.2 (by omega)
        clear h1 h2 h3 h hL
        go_enter Tryz.func65, Tryz.ntmps65
        go_wp2_with fail
        refine (HC.out _).mono ?_
        rintro e w2 ⟨rfl, rfl⟩
        go_wp2_with fail
        go_ret
        exact ⟨rfl, HB.out⟩
      · have d1 : (k == 0) = true := beq_iff_eq.2 h1
        have d2 : (n == 0) = true := beq_iff_eq.2 h2
        have d3 : ((kl : Int) == 0) = false := beq_eq_false_iff_ne.2 (by omega)
        clear h1 h2 h3 h
        go_enter Tryz.func65, Tryz.ntmps65
        go_wp2_with fail
        go_ret
        exact ⟨rfl, HB.out⟩
    · have d1 : (k == 0) = true := beq_iff_eq.2 h1
      have d2 : (n == 0) = false := beq_eq_false_iff_ne.2 h2
      clear h1 h2 h
      go_enter Tryz.func65, Tryz.ntmps65
      go_wp2_with fail
      go_ret
      exact ⟨rfl, HB.out⟩
  · have d1 : (k == 0) = false := beq_eq_false_iff_ne.2 h1
    clear h1 h
    go_enter Tryz.func65, Tryz.ntmps65
    go_wp2_with fail
    go_ret
    exact ⟨rfl, HB.out⟩
def S0At (w0 : World) (ga gb : Nat) (x0 x1 x2 x3 : Value) (wx : World) : Prop := wx.heap[ga]? = some (.cells #[x0, x1, x2, x3] 30 (0, 0)) ∧ wx.heap[gb]? = some (.cells #[.int .i64 0, .int .i64 0, .slice none 0 0, .slice none 0 0] 30 (0, 0)) ∧ Below w0.heap.size w0 wx
theorem S0At.one {w0 w : World} {x0 x1 x2 x3 : Value} (hb : Below w0.heap.size w0 w) : S0At w0 w.heap.size (w.heap.size + 1) x0 x1 x2 x3 (((w.alloc (.cells #[x0, x1, x2, x3] 30)).alloc (.cells #[.int .i64 0, .int .i64 0, .slice none 0 0, .slice none 0 0] 30)).drew) :=
  ⟨(heap_old _ _ (by simp)).trans (heap_new _ _), heap_second _ _ _, ((hb.alloc hb.size _).alloc (by have := hb.size; simp; omega) _).drew⟩
theorem S0At.two {w0 w : World} {x0 x1 x2 x3 : Value} (hb : Below w0.heap.size w0 w) : S0At w0 (w.heap.size + 1) w.heap.size x0 x1 x2 x3 (((w.alloc (.cells #[.int .i64 0, .int .i64 0, .slice none 0 0, .slice none 0 0] 30)).alloc (.cells #[x0, x1, x2, x3] 30)).drew) :=
  ⟨heap_second _ _ _, (heap_old _ _ (by simp)).trans (heap_new _ _), ((hb.alloc hb.size _).alloc (by have := hb.size; simp; omega) _).drew⟩
set_option maxRecDepth 100000 in
set_option maxHeartbeats 4000000 in
theorem tSame0_no (k n : Int) (a ka : Option Addr) (L c kl kc : Nat) (h : ¬ (k = 0 ∧ n = 0 ∧ kl = 0 ∧ L = 0)) (w : World) :
    Calls Tryz.prog 42 #[.agg #[.int .i64 k, .int .i64 n, .slice a L c, .slice ka kl kc], .agg #[.int .i64 0, .int .i64 0, .slice none 0 0, .slice none 0 0]] w fun e w' => e = .returned (.bool false) ∧ Below w.heap.size w w' := by
  have HC := Lib.hid (fun W => talike0 k n a ka L c kl kc h W)
  obtain ⟨W1, hW1⟩ : ∃ W1, (w.alloc (.cells #[.int .i64 k, .int .i64 n, .slice a L c, .slice ka kl kc] 30)).alloc (.cells #[.int .i64 0, .int .i64 0, .slice none 0 0, .slice none 0 0] 30) = W1 := ⟨_, rfl⟩
  have hb0 : Below w.heap.size w W1 := by rw [← hW1]; exact ((Below.refl _ _).alloc (Nat.le_refl _) _).alloc (by simp) _
  have hx0 : W1.heap[w.heap.size]? = some (.cells #[.int .i64 k, .int .i64 n, .slice a L c, .slice ka kl kc] 30 (0, 0)) := by rw [← hW1]; exact (heap_old _ _ (by simp)).trans (heap_new _ _)
  have hy0 : W1.heap[w.heap.size + 1]? = some (.cells #[.int .i64 0, .int .i64 0, .slice none 0 0, .slice none 0 0] 30 (0, 0)) := by rw [← hW1]; exact heap_second _ _ _
  have HB0 := Lib.hid hb0
  have HW1 := Lib.hid hW1
  obtain ⟨x0, x1, x2, x3⟩ := cells4 hx0
  obtain ⟨y0, y1, y2, y3⟩ := cells4 hy0
  have k1 : ∀ p v o, W1.cell? p = some v → (W1.alloc o).cell? p = some v := fun p v o h => (((Below.refl W1.heap.size W1).alloc (Nat.le_refl _) o).cell (World.block_lt_of_cell? W1 p h)).trans h
  have a0 := fun o => k1 _ _ o x0
  have a1 := fun o => k1 _ _ o x1
  have a2 := fun o => k1 _ _ o x2
  have a3 := fun o => k1 _ _ o x3
  have b0 := fun o => k1 _ _ o y0
  have b1 := fun o => k1 _ _ o y1
  have b2 := fun o => k1 _ _ o y2
  have b3 := fun o => k1 _ _ o y3
  clear h hb0 hW1 hx0 hy0 k1
  go_enter Tryz.func42, Tryz.ntmps42
  go_upto_region 1 with fail
  rw [HW1.out]
  go_cut [5, 6] (fun s5 s6 wx => ∃ ga gb : Nat, s5 = .slice (some ⟨ga, 0, none⟩) 1 1 ∧ s6 = .slice (some ⟨gb, 0, none⟩) 1 1 ∧ Hid (S0At w ga gb (.int .i64 k) (.int .i64 n) (.slice a L c) (.slice ka kl kc) wx))
  case first =>
    go_region
    all_goals go_wp2_with fail
    all_goals go_meet
    all_goals first
      | exact ⟨_, _, rfl, rfl, Lib.hid (S0At.one HB0.out)⟩
      | exact ⟨_, _, rfl, rfl, Lib.hid (S0At.two HB0.out)⟩
  case rest =>
    obtain ⟨ga, gb, rfl, rfl, hX⟩ := hcut
    obtain ⟨W0, hW0⟩ : ∃ W, W = wc := ⟨_, rfl⟩
    rw [← hW0] at hX ⊢
    clear hW0 x0 x1 x2 x3 y0 y1 y2 y3 a0 a1 a2 a3 b0 b1 b2 b3
    go_wp2_with fail
    go_loopw [5, 6] (fun v5 v6 wr => v5 = .slice (some ⟨ga, 0, none⟩) 1 1 ∧ v6 = .slice (some ⟨gb, 0, none⟩) 1 1 ∧ wr = W0) (fun _ _ _ => 0)
    case atStart => exact ⟨rfl, rfl, rfl⟩
    case round =>
      obtain ⟨rfl, rfl, rfl⟩ := hrel
      obtain ⟨x0, x1, x2, x3⟩ := cells4 hX.out.1
      obtain ⟨y0, y1, y2, y3⟩ := cells4 hX.out.2.1
      have lx := lt_of_block hX.out.1
      have ly := lt_of_block hX.out.2.1
      have k1 : ∀ p v o, wr.cell? p = some v → (wr.alloc o).cell? p = some v := fun p v o h => (((Below.refl wr.heap.size wr).alloc (Nat.le_refl _) o).cell (World.block_lt_of_cell? wr p h)).trans h
      have a0 := fun o => k1 _ _ o x0
      have a1 := fun o => k1 _ _ o x1
      have a2 := fun o => k1 _ _ o x2
      have a3 := fun o => k1 _ _ o x3
      have b0 := fun o => k1 _ _ o y0
      have b1 := fun o => k1 _ _ o y1
      have b2 := fun o => k1 _ _ o y2
      have b3 := fun o => k1 _ _ o y3
      clear k1
      go_upto_region 4 with fail
      go_cut [8, 9] (fun s8 s9 wx => ∃ X Y : Nat, s8 = .pointer (some ⟨X, 0, none⟩) ∧ s9 = .pointer (some ⟨Y, 0, none⟩) ∧ Hid (S0At w X Y (.int .i64 k) (.int .i64 n) (.slice a L c) (.slice ka kl kc) wx))
      case first =>
        go_region
        all_goals go_wp2_with fail
        all_goals go_meet
        all_goals first
          | exact ⟨_, _, rfl, rfl, Lib.hid (S0At.one hX.out.2.2)⟩
          | exact ⟨_, _, rfl, rfl, Lib.hid (S0At.two hX.out.2.2)⟩
      case rest =>
        clear x0 x1 x2 x3 y0 y1 y2 y3 a0 a1 a2 a3 b0 b1 b2 b3
        obtain ⟨X, Y, rfl, rfl, hY⟩ := hcut
        obtain ⟨x0, x1, x2, x3⟩ := cells4 hY.out.1
        obtain ⟨y0, y1, y2, y3⟩ := cells4 hY.out.2.1
        go_wp2_with fail
        refine (HC.out _).mono ?_
        rintro e w2 ⟨rfl, hb2⟩
        have HB2 := Lib.hid (Below.step hY.out.2.2 hb2 (Nat.le_refl _))
        clear hb2
        go_wp2_with fail
        go_ret
        exact ⟨rfl, HB2.out⟩
theorem tSame_zero (T : Tm) (la ka : Option Addr) (lc kc B : Nat) (w : World) (hls : SlIn w (· < B) T.ls la lc) (hsl : TlIn w (· < B) T.ks ka kc) (hB : B ≤ w.heap.size) :
    Calls Tryz.prog 42 #[.agg #[.int .i64 T.k, .int .i64 T.n, .slice la T.ls.len lc, .slice ka T.ks.len kc], .agg #[.int .i64 0, .int .i64 0, .slice none 0 0, .slice none 0 0]] w fun e w' => e = .returned (.bool (decide (T = tZ))) ∧ Below w.heap.size w w' := by
  by_cases h : T.k = 0 ∧ T.n = 0 ∧ T.ks.len = 0 ∧ T.ls.len = 0
  · obtain ⟨k, n, ls, ks⟩ := T
    obtain ⟨h1, h2, h3, h4⟩ := h
    obtain rfl : k = 0 := h1
    obtain rfl : n = 0 := h2
    obtain rfl : ks = .nil := Ft.len_zero h3
    obtain rfl : ls = .nil := by
      cases ls with
      | nil => rfl
      | cons k n ks r => simp [Fo.len] at h4
    have r := tSame_any .nil .nil 0 0 0 0 .nil .nil la none ka none lc 0 kc 0 B w hls (SlIn.none _ _) hsl (TlIn.none _ _) hB ⟨by simp [Ft.size], trivial, by simp [Fo.size]⟩ ⟨by simp [Ft.size], trivial, by simp [Fo.size]⟩
    rw [show decide ((⟨0, 0, .nil, .nil⟩ : Tm) = tZ) = decide (Ft.cons 0 0 Fo.nil Ft.nil Ft.nil = Ft.cons 0 0 .nil .nil .nil) by simp [tZ]]
    exact r
  · rw [show decide (T = tZ) = false from decide_eq_false (fun e => h (by rw [e]; exact ⟨rfl, rfl, rfl, rfl⟩))]
    exact tSame0_no T.k T.n la ka T.ls.len lc T.ks.len kc h w
end Go.Proofs.YtnfhpombnbpdcaaGreat
