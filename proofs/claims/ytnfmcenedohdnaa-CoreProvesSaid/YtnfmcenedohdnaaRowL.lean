/- A row of numbers of the call's own, read as a list of numbers, in its world and in all later ones. No condition but those that stand in each statement. -/
import Derived.Test.YtnfmcenedohdnaaIown
import Derived.Test.YtnfmcenedohdnaaIntsIn
namespace Go.Proofs.Ytnfmcenedohdnaa
open Go.RowKit

theorem IOwn.ints {w : World} {base : Nat} {x : Option Addr} {c : Nat} {zs : List Int} (h : IOwn w base (.slice x zs.length c) zs) : IntsIn w (· < w.heap.size) zs x c := by
  rcases h.2 with ⟨e, h0⟩ | ⟨g, cap, cur, e, hb, hh, hle, hm, _⟩
  · injection e with e1 _ e3
    subst e1 e3
    exact ⟨by omega, Nat.zero_le _, fun _ => rfl, fun hx => by omega⟩
  · injection e with e1 _ e3
    subst e1 e3
    refine ⟨hle, hm, (fun e => by cases e), fun _ => ⟨g, 0, rfl, lt_of_block hh, fun i hi => ?_⟩⟩
    obtain ⟨g', c', hv, _, _, hc⟩ := h.at hi
    injection hv with h1 _ _
    injection h1 with h1
    injection h1 with h1 _ _
    subst h1
    rw [Nat.zero_add]
    exact hc
/-- A row of numbers that lies in a world, and in all later ones. -/
def RowL (zs : List Int) (x : Option Addr) (c : Nat) (w : World) : Prop := ∀ W, Below w.heap.size w W → IntsIn W (· < w.heap.size) zs x c ∧ w.heap.size ≤ W.heap.size
theorem RowL.of {zs : List Int} {x : Option Addr} {c base : Nat} {w : World} (h : IOwn w base (.slice x zs.length c) zs) : RowL zs x c w := fun _ hb => ⟨h.ints.below hb, hb.size⟩
end Go.Proofs.Ytnfmcenedohdnaa
