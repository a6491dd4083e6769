/- The contracts of the law's own comparison of two rows of numbers, and of what is told of a level. Condition: the level is right. -/
import Derived.Test.YtmbopdlmkbbbiaaR5sub2
import Derived.Test.YtmbopdlmkbbbiaaNums
import Derived.Test.YtmbopdlmkbbbiaaInts
import Derived.Test.YtmbopdlmkbbbiaaRSame
namespace Go.Proofs.Ytmbopdlmkbbbiaa
open Go.RowKit

theorem rSame_same (F : Fo) (k n : Int) (a a' : Option Addr) (cap cap' B : Nat) (w : World) (h1 : SlIn w (· < B) F a cap) (h2 : SlIn w (· < B) F a' cap') (hB : B ≤ w.heap.size) :
    Calls Try.prog 15 #[.agg #[.int .i64 k, .int .i64 n, .slice a F.len cap], .agg #[.int .i64 k, .int .i64 n, .slice a' F.len cap']] w fun e w' => e = .returned (.bool true) ∧ Below w.heap.size w w' := by
  have := rSame_any (F.size + 1) F F (Nat.lt_succ_self _) k n k n a a' cap cap' B w h1 h2 hB
  rwa [show decide (k = k ∧ n = n ∧ F = F) = true by simp] at this
theorem IOwn.ints {w : World} {base : Nat} {x : Option Addr} {c : Nat} {zs : List Int} (h : IOwn w base (.slice x zs.length c) zs) : IntsIn w (· < w.heap.size) zs x c := by
  rcases h.2 with ⟨e, h0⟩ | ⟨g, cap, cur, e, hb, hh, hle, hm, _⟩
  · injection e with e1 _ e3
    subst e1 e3
    exact ⟨by omega, Nat.zero_le _, fun _ => rfl, fun hx => by omega⟩
  · injection e with e1 _ e3
    subst e1 e3
    refine ⟨hle, hm, (fun e => by cases e), fun _ => ⟨g, 0, rfl, lt_of_block hh, fun i hi => ?_⟩⟩
    obtain ⟨g', c', hv, _, _, hc⟩ := h.at hi
    injection hv with h1 _ _
    injection h1 with h1
    injection h1 with h1 _ _
    subst h1
    rw [Nat.zero_add]
    exact hc
/-- Two rows of the same numbers are told to be the same. -/
theorem ints5_yes (l : List Int) (a b : Option Addr) (ca cb B : Nat) (w : World) (h1 : IntsIn w (· < B) l a ca) (h2 : IntsIn w (· < B) l b cb) (hB : B ≤ w.heap.size) :
    Calls Try.prog 23 #[.slice a l.length ca, .slice b l.length cb] w fun e w' => e = .returned (.bool true) ∧ Below w.heap.size w w' := by
  have hlen := h1.len
  have H1 := Lib.hid h1
  have H2 := Lib.hid h2
  clear h1 h2
  go_enter Try.func23, Try.ntmps23
  go_wp2_with fail
  go_loopw [5] (fun qv wr => ∃ q : Nat, qv = .int .i64 q ∧ q ≤ l.length ∧ Below w.heap.size w wr) (fun qv _ => l.length - (intOf qv).toNat)
  case atStart => exact ⟨0, rfl, Nat.zero_le _, Below.refl _ _⟩
  case round =>
    obtain ⟨q, rfl, hq, hb⟩ := hrel
    by_cases hql : q < l.length
    · have hql' : (q : Int) < (l.length : Int) := by omega
      have hq0 : (0 : Int) ≤ (q : Int) := by omega
      obtain ⟨g, o, rfl, hg, hc⟩ := H1.out.some (by omega)
      obtain ⟨g2, o2, rfl, hg2, hc2⟩ := H2.out.some (by omega)
      have e0 := (bcell hb g (o + q) (by omega)).trans (hc q hql)
      have e1 := (bcell hb g2 (o2 + q) (by omega)).trans (hc2 q hql)
      have HBN : Hid (∀ m, Below w.heap.size w (wr.drewN m)) := Lib.hid (fun m => Below.draws hb m)
      clear hc hc2
      generalize l.getD q 0 = z at e0 e1
      go_wp2_with fail
      go_quiet (fail)
      go_wp2_with fail
      go_roundw
      case rel => exact ⟨q + 1, by go_num, by omega, HBN.out _⟩
      case measure => simp [intOf]; omega
    · have hql' : ¬ (q : Int) < (l.length : Int) := by omega
      have dq : decide ((q : Int) < (l.length : Int)) = false := by simpa using hql'
      go_wp2_with fail
      go_ret
      exact ⟨rfl, hb⟩
end Go.Proofs.Ytmbopdlmkbbbiaa
