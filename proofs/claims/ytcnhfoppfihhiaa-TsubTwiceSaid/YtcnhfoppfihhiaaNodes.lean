/- The contract of the document's own count of levels. No condition but that the level lies in memory. -/
import Derived.Test.YtcnhfoppfihhiaaSpec
namespace Go.Proofs.Ytcnhfoppfihhiaa
open Go.RowKit

set_option maxRecDepth 100000 in
set_option maxHeartbeats 1000000 in
theorem nodes_any (s : Nat) : ∀ (f : Fo), f.size < s → ∀ (k n m : Int) (a : Option Addr) (cap B : Nat) (w : World), SlIn w (· < B) f a cap → B ≤ w.heap.size → 1 ≤ m → m ≤ 2000 →
    Calls Try.prog 69 #[.agg #[.int .i64 k, .int .i64 n, .slice a f.len cap], .int .i64 m] w fun e w' => e = .returned (.int .i64 (nodesF f m 1)) ∧ Below w.heap.size w w' := by
  induction s with
  | zero => intro f hs; omega
  | succ s ih =>
    intro f hs k n m a cap B w hsl hB h1 h2
    have IH := Lib.hid ih
    clear ih
    have hlen := hsl.len
    go_enter Try.func69, Try.ntmps69
    go_wp2_with fail
    go_loopw [5, 6] (fun mm i wr => ∃ (j : Nat) (r : Fo) (q : Int), i = .int .i64 j ∧ mm = .int .i64 q ∧ 1 ≤ q ∧ q ≤ m ∧ Hid (j + r.len = f.len) ∧ Hid (r.size ≤ f.size) ∧
        Hid (∀ b o, a = some ⟨b, o, none⟩ → FoIn w (· < B) r b (o + j * 3)) ∧ Hid (nodesF r m q = nodesF f m 1) ∧ Below (w.heap.size + 1) (w.alloc (.cells #[.int .i64 k, .int .i64 n, .slice a f.len cap] 38)) wr)
      (fun _ i _ => f.len - (intOf i).toNat)
    case atStart => exact ⟨0, f, 1, rfl, rfl, by omega, by omega, Lib.hid (by omega), Lib.hid (Nat.le_refl _), Lib.hid (by rintro b o rfl; simpa using hsl.foIn), Lib.hid rfl, Below.refl _ _⟩
    case round =>
      obtain ⟨j, r, q, rfl, rfl, hq0, hq1, hj, hrs, hin, hfew, hb⟩ := hrel
      have c0 := bcell hb w.heap.size 0 (by omega)
      have c1 := bcell hb w.heap.size 1 (by omega)
      have c2 := bcell hb w.heap.size 2 (by omega)
      simp at c0 c1 c2
      have hwB : Below B w wr := ((Below.refl B w).alloc hB _).trans (hb.mono (by omega))
      cases r with
      | nil =>
        have hlt : ¬ (j : Int) < (f.len : Int) := by have := hj.out; simp [Fo.len] at this; omega
        have d : decide ((j : Int) < (f.len : Int)) = false := by simpa using hlt
        go_wp2_with fail
        go_ret
        exact ⟨by rw [← hfew.out]; rfl, Below.trans ((Below.refl _ _).alloc (Nat.le_refl _) _) (hb.mono (by omega))⟩
      | cons k' n' ks r' =>
        have hlt : j < f.len := by have := hj.out; simp [Fo.len] at this; omega
        by_cases hq : q < m
        · obtain ⟨b, o, rfl, hbB, hf0⟩ := hsl.some (by omega)
          obtain ⟨e0, e1, ⟨a', cap', e2, hsl'⟩, hrest⟩ := (hin.out b o rfl).below hwB _ _ _ hbB |>.first
          have hks : ks.size < s := by have := hrs.out; simp [Fo.size] at this; omega
          have HG := Lib.hid (nodesF_go k' n' ks r' hq)
          have hv := nodesF_eq ks (m - q) 1 (by omega) (by omega)
          have hv1 : 1 ≤ nodesF ks (m - q) 1 := by omega
          have hv2 : q + nodesF ks (m - q) 1 ≤ m := by omega
          clear hv
          go_wp2_with fail
          refine (IH.out ks hks _ _ _ _ _ B _ hsl' (Nat.le_trans hB hwB.size) (by omega) (by omega)).mono ?_
          rintro e w2 ⟨rfl, hb2⟩
          have hb' := Below.step hb hb2 (by simp)
          go_wp2_with fail
          go_roundw
          case rel => exact ⟨j + 1, r', _, by go_num, rfl, by omega, by omega, Lib.hid (by have := hj.out; simp [Fo.len] at this; omega), Lib.hid (by have := hrs.out; simp [Fo.size] at this; omega), Lib.hid (by rintro b' o' h; cases h; have := (hin.out b o rfl).2.2.2; rwa [show o + (j + 1) * 3 = o + j * 3 + 3 by omega]), Lib.hid (by rw [← hfew.out, HG.out]), hb'⟩
          case measure => simp [intOf]; omega
        · have HE := Lib.hid (nodesF_stop k' n' ks r' hq)
          have d : decide (q < m) = false := by simpa using hq
          have d' : decide ((j : Int) < (f.len : Int)) = true := by simp; omega
          go_wp2_with fail
          go_ret
          exact ⟨by rw [← hfew.out, HE.out]; rfl, Below.trans ((Below.refl _ _).alloc (Nat.le_refl _) _) (hb.mono (by omega))⟩
end Go.Proofs.Ytcnhfoppfihhiaa
