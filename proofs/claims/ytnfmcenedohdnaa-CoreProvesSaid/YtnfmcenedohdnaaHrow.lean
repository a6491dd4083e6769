/- A row of numbers of the call's own, to which a number is put, in one lemma; cells of a block and of another one that lie there still. No condition but those that stand in each statement. -/
import Derived.Test.YtnfmcenedohdnaaIown
import Derived.Test.YtnfmcenedohdnaaCell
import Derived.Test.YtnfmcenedohdnaaIntsIn
namespace Go.Proofs.Ytnfmcenedohdnaa
open Go.RowKit

theorem IOwn.more {w wr : World} {v : Value} {zs : List Int} (h : IOwn wr w.heap.size v zs) (hb : Below w.heap.size w wr) (ty : TypeId) (z : Int) (hsz : zs.length ≤ 1000) :
    ∃ g c w3, Hid ((Builtin.append_ #[23, 23] ty #[v, .slice (some ⟨wr.heap.size, 0, none⟩) 1 1]).run Try.prog (wr.alloc (.cells #[.int .i64 z] 3)) = .ok (.slice (some ⟨g, 0, none⟩) (zs.length + 1) c) w3) ∧
      Hid (IOwn w3 w.heap.size (.slice (some ⟨g, 0, none⟩) (zs.length + 1) c) (zs ++ [z])) ∧ Hid (Below w.heap.size w w3) := by
  obtain ⟨g, c, w3, hrun, h2, ht⟩ := h.push ty z (by omega) hb.size
  exact ⟨g, c, w3, Lib.hid hrun, Lib.hid h2, Lib.hid (hb.trans (ht.low hb.size (fun b hb => (h.lt b hb).1)))⟩
/-- What a call answers that tells a row of numbers and an error. -/
def RowPost (R : List Int) (E : Int) (w : World) (e : Ending) (w' : World) : Prop :=
  ∃ x c, e = .returned (.tuple #[.slice x R.length c, .int .i64 E]) ∧ IOwn w' w.heap.size (.slice x R.length c) R ∧ Below w.heap.size w w'
theorem RowPost.nil {w w' : World} {E : Int} {e : Ending} (he : e = .returned (.tuple #[.slice none 0 0, .int .i64 E])) (hb : Below w.heap.size w w') : RowPost [] E w e w' := ⟨none, 0, he, IOwn.nil _ _, hb⟩
theorem held4 {W w' : World} {X Y o p q r : Nat} {u0 u1 u2 y : Value} (hb : Below W.heap.size W w') (hX : X < W.heap.size) (hY : Y < W.heap.size)
    (h : W.cell? ⟨X, o, none⟩ = some u0 ∧ W.cell? ⟨X, p, none⟩ = some u1 ∧ W.cell? ⟨X, q, none⟩ = some u2 ∧ W.cell? ⟨Y, r, none⟩ = some y) :
    Hid (Below W.heap.size W w') ∧ w'.cell? ⟨X, o, none⟩ = some u0 ∧ w'.cell? ⟨X, p, none⟩ = some u1 ∧ w'.cell? ⟨X, q, none⟩ = some u2 ∧ w'.cell? ⟨Y, r, none⟩ = some y :=
  ⟨Lib.hid hb, (bcell hb _ _ hX).trans h.1, (bcell hb _ _ hX).trans h.2.1, (bcell hb _ _ hX).trans h.2.2.1, (bcell hb _ _ hY).trans h.2.2.2⟩
end Go.Proofs.Ytnfmcenedohdnaa
