/- The contracts of the document's own test whether a term may be. No condition but that the term lies in memory. -/
import Derived.Test.YtcnhfoppfihhiaaTspec
import Derived.Test.YtcnhfoppfihhiaaRRight
import Derived.Deep.QuietTactic
import Derived.BigQuiet
import Derived.Deep.RegionHeld3
namespace Go.Proofs.Ytcnhfoppfihhiaa
open Go.RowKit

set_option maxHeartbeats 1000000 in
theorem r13kids_any (k : Int) (w : World) : Calls Try.prog 76 #[.int .i64 k] w fun e w' => e = .returned (.int .i64 (tkids k)) ∧ w' = w := by
  by_cases hk : k < 1 ∨ 7 < k
  · have e : tkids k = -1 := by have := tkids_cases k; omega
    have HE := Lib.hid e
    clear e
    have n1 : (k == 1) = false := beq_eq_false_iff_ne.2 (by omega)
    have n2 : (k == 2) = false := beq_eq_false_iff_ne.2 (by omega)
    have n3 : (k == 3) = false := beq_eq_false_iff_ne.2 (by omega)
    have n4 : (k == 4) = false := beq_eq_false_iff_ne.2 (by omega)
    have n5 : (k == 5) = false := beq_eq_false_iff_ne.2 (by omega)
    have n6 : (k == 6) = false := beq_eq_false_iff_ne.2 (by omega)
    have n7 : (k == 7) = false := beq_eq_false_iff_ne.2 (by omega)
    clear hk
    go_enter Try.func76, Try.ntmps76
    go_wp2
    go_ret
    exact ⟨by rw [HE.out]; rfl, rfl⟩
  · have h6 : k = 1 ∨ k = 2 ∨ k = 3 ∨ k = 4 ∨ k = 5 ∨ k = 6 ∨ k = 7 := by omega
    clear hk
    rcases h6 with rfl | rfl | rfl | rfl | rfl | rfl | rfl
    all_goals
      go_enter Try.func76, Try.ntmps76
      go_wp2
      go_ret
      exact ⟨rfl, rfl⟩
theorem bindK_1 {k : Int} {i : Nat} (h : (k = 5 ∨ k = 6) ∧ i = 1 ∨ k = 7 ∧ i = 2) : bindK k i = 1 := if_pos h
theorem bindK_0 {k : Int} {i : Nat} (h : ¬ ((k = 5 ∨ k = 6) ∧ i = 1 ∨ k = 7 ∧ i = 2)) : bindK k i = 0 := if_neg h
set_option maxHeartbeats 1000000 in
theorem r13binds_any (k : Int) (i : Nat) (w : World) : Calls Try.prog 46 #[.int .i64 k, .int .i64 i] w fun e w' => e = .returned (.int .i64 (bindK k i)) ∧ w' = w := by
  obtain ⟨j, hj⟩ : ∃ j : Int, (i : Int) = j := ⟨_, rfl⟩
  rw [hj]
  by_cases h5 : k = 5
  · by_cases h1 : i = 1
    · rw [bindK_1 (.inl ⟨.inl h5, h1⟩)]
      obtain rfl : j = 1 := by omega
      subst h5
      clear h1 hj
      go_enter Try.func46, Try.ntmps46
      go_wp2
      go_ret
      exact ⟨rfl, rfl⟩
    · rw [bindK_0 (by omega)]
      have n1 : (j == 1) = false := beq_eq_false_iff_ne.2 (by omega)
      subst h5
      clear h1 hj
      go_enter Try.func46, Try.ntmps46
      go_wp2
      go_ret
      exact ⟨rfl, rfl⟩
  · by_cases h6 : k = 6
    · by_cases h1 : i = 1
      · rw [bindK_1 (.inl ⟨.inr h6, h1⟩)]
        obtain rfl : j = 1 := by omega
        subst h6
        clear h1 hj
        go_enter Try.func46, Try.ntmps46
        go_wp2
        go_ret
        exact ⟨rfl, rfl⟩
      · rw [bindK_0 (by omega)]
        have n1 : (j == 1) = false := beq_eq_false_iff_ne.2 (by omega)
        subst h6
        clear h1 hj
        go_enter Try.func46, Try.ntmps46
        go_wp2
        go_ret
        exact ⟨rfl, rfl⟩
    · by_cases h7 : k = 7
      · by_cases h2 : i = 2
        · rw [bindK_1 (.inr ⟨h7, h2⟩)]
          obtain rfl : j = 2 := by omega
          subst h7
          clear h2 hj
          go_enter Try.func46, Try.ntmps46
          go_wp2
          go_ret
          exact ⟨rfl, rfl⟩
        · rw [bindK_0 (by omega)]
          have n1 : (j == 2) = false := beq_eq_false_iff_ne.2 (by omega)
          subst h7
          clear h2 hj
          go_enter Try.func46, Try.ntmps46
          go_wp2
          go_ret
          exact ⟨rfl, rfl⟩
      · rw [bindK_0 (by omega)]
        have n5 : (k == 5) = false := beq_eq_false_iff_ne.2 h5
        have n6 : (k == 6) = false := beq_eq_false_iff_ne.2 h6
        have n7 : (k == 7) = false := beq_eq_false_iff_ne.2 h7
        clear h5 h6 h7 hj
        go_enter Try.func46, Try.ntmps46
        go_wp2
        go_ret
        exact ⟨rfl, rfl⟩

set_option maxRecDepth 100000 in
set_option maxHeartbeats 1000000 in
theorem r13parts_any (s : Nat) : ∀ (f : Ft), f.size < s → ∀ (k n m : Int) (ls : Fo) (la ka : Option Addr) (lc kc B : Nat) (w : World), TlIn w (· < B) f ka kc → B ≤ w.heap.size → 1 ≤ m → m ≤ 2000 →
    Calls Try.prog 64 #[.agg #[.int .i64 k, .int .i64 n, .slice la ls.len lc, .slice ka f.len kc], .int .i64 m] w fun e w' => e = .returned (.int .i64 (partsF f m 1)) ∧ Below w.heap.size w w' := by
  induction s with
  | zero => intro f hs; omega
  | succ s ih =>
    intro f hs k n m ls la ka lc kc B w hsl hB h1 h2
    have IH := Lib.hid ih
    clear ih
    have hlen := hsl.len
    go_enter Try.func64, Try.ntmps64
    go_wp2_with fail
    go_loopw [5, 6] (fun mm i wr => ∃ (j : Nat) (r : Ft) (q : Int), i = .int .i64 j ∧ mm = .int .i64 q ∧ 1 ≤ q ∧ q ≤ m ∧ Hid (j + r.len = f.len) ∧ Hid (r.size ≤ f.size) ∧
        Hid (∀ b o, ka = some ⟨b, o, none⟩ → FtIn w (· < B) r b (o + j * 4)) ∧ Hid (partsF r m q = partsF f m 1) ∧ Below (w.heap.size + 1) (w.alloc (.cells #[.int .i64 k, .int .i64 n, .slice la ls.len lc, .slice ka f.len kc] 29)) wr)
      (fun _ i _ => f.len - (intOf i).toNat)
    case atStart => exact ⟨0, f, 1, rfl, rfl, by omega, by omega, Lib.hid (by omega), Lib.hid (Nat.le_refl _), Lib.hid (by rintro b o rfl; simpa using hsl.ftIn), Lib.hid rfl, Below.refl _ _⟩
    case round =>
      obtain ⟨j, r, q, rfl, rfl, hq0, hq1, hj, hrs, hin, hfew, hb⟩ := hrel
      have c3 := bcell hb w.heap.size 3 (by omega)
      simp at c3
      have hwB : Below B w wr := ((Below.refl B w).alloc hB _).trans (hb.mono (by omega))
      cases r with
      | nil =>
        have hlt : ¬ (j : Int) < (f.len : Int) := by have := hj.out; simp [Ft.len] at this; omega
        have d : decide ((j : Int) < (f.len : Int)) = false := by simpa using hlt
        go_wp2_with fail
        go_ret
        exact ⟨by rw [← hfew.out]; rfl, Below.trans ((Below.refl _ _).alloc (Nat.le_refl _) _) (hb.mono (by omega))⟩
      | cons k' n' ls' ks r' =>
        have hlt : j < f.len := by have := hj.out; simp [Ft.len] at this; omega
        by_cases hq : q < m
        · obtain ⟨b, o, rfl, hbB, hf0⟩ := hsl.some (by omega)
          obtain ⟨e0, e1, ⟨la', lc', e2, _⟩, ⟨a', cap', e3, hsl'⟩, hrest⟩ := (hin.out b o rfl).below hwB _ _ _ hbB |>.first
          have hks : ks.size < s := by have := hrs.out; simp [Ft.size] at this; omega
          have HG := Lib.hid (partsF_go k' n' ls' ks r' hq)
          have hv := partsF_eq ks (m - q) 1 (by omega) (by omega)
          have hv1 : 1 ≤ partsF ks (m - q) 1 := by omega
          have hv2 : q + partsF ks (m - q) 1 ≤ m := by omega
          clear hv
          go_wp2_with fail
          refine (IH.out ks hks _ _ _ ls' _ _ _ _ B _ hsl' (Nat.le_trans hB hwB.size) (by omega) (by omega)).mono ?_
          rintro e w2 ⟨rfl, hb2⟩
          have hb' := Below.step hb hb2 (by simp)
          go_wp2_with fail
          go_roundw
          case rel => exact ⟨j + 1, r', _, by go_num, rfl, by omega, by omega, Lib.hid (by have := hj.out; simp [Ft.len] at this; omega), Lib.hid (by have := hrs.out; simp [Ft.size] at this; omega), Lib.hid (by rintro b' o' h; cases h; have := (hin.out b o rfl).2.2.2.2; rwa [show o + (j + 1) * 4 = o + j * 4 + 4 by omega]), Lib.hid (by rw [← hfew.out, HG.out]), hb'⟩
          case measure => simp [intOf]; omega
        · have HE := Lib.hid (partsF_stop k' n' ls' ks r' hq)
          have d : decide (q < m) = false := by simpa using hq
          have d' : decide ((j : Int) < (f.len : Int)) = true := by simp; omega
          go_wp2_with fail
          go_ret
          exact ⟨by rw [← hfew.out, HE.out]; rfl, Below.trans ((Below.refl _ _).alloc (Nat.le_refl _) _) (hb.mono (by omega))⟩
end Go.Proofs.Ytcnhfoppfihhiaa
