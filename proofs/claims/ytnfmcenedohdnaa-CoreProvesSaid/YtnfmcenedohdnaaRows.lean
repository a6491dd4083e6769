/-
  No cell of these rows narrows 'for every input' (looked for: loops, veiled, ifaces, maps, wideKeys, modest, calm, conditions, laid).
  DERIVED. THE GIVEN ROWS OF THIS SEAT. 4 by the template 'for every input the law returns true; each argument reads behind the call as it read before'; 0 by the template 'total and deterministic' (their statements: YtnfmcenedohdnaaTotals.lean).
  GIVEN WITH THE SEED: the statements are not yours to turn. If you find one false, say at which input.
  Laid BY PROGRAM, IN A SANDBOX (cutbox-rows.mjs): the forced cells as the released guide's own fill.sh prints them over the translation 68b8a0f88bb747fb… (all of the seat's roots in one cut). By AI agents, Wed Nov 11 2026. No macro, syntax, notation, axiom, sorry.
-/
import Derived.Test.YtnfmcenedohdnaaChecked
import GoSem.Claim
import GoSem.ClaimJoined
import GoSem.ClaimMapViews
import Derived.JoinedTies
import Derived.KernelRfl
namespace Go.Proofs.Ytnfmcenedohdnaa
/- THE CELL 'sum', in the pinned program and in every row, IS THE sha256 OF THE DUMP (.gsa) THAT YtnfmcenedohdnaaProg.lean LOADS. Nothing in Lean hashes anything: it is a label: what it is worth is what the hold of that sum in a sandbox is worth. -/
noncomputable def Try.pinned : Pinned := { name := "ytnfmcenedohdnaa", sum := "68b8a0f88bb747fbde70f09bad09d0f2e57a848cc502691807d7eff69b518990", checked := Try.checked }
namespace Rows
def none {H : Type} : Left H := { results := [], args := [] }

/-- 'stereobatelaw10.CoreAny': WHATEVER THE INPUT: true; the input reads as it did. -/
def coreAnySpec : ChangeSpec := { name := "coreAny", fn := fun _ => fun
  | [d1, d2, d3] => { results := [.lit (.bool true)], args := [d1, d2, d3] }
  | _ => none }
def coreAnyRow : OpenClaim := { program := "ytnfmcenedohdnaa", sum := "68b8a0f88bb747fbde70f09bad09d0f2e57a848cc502691807d7eff69b518990", func := "stereobate/stereobatelaw10.CoreAny", spec := "coreAny", unfollowed := true, recurses := true, apart := false }
def CoreAnySaid : Prop := coreAnyRow.holds Try.pinned (OpenSpec.ofChange coreAnySpec)

/-- ITS FALSE NEIGHBOUR: 'it returns false'. Refute it at one input. -/
def coreAnyWrong : ChangeSpec := { name := "coreAny", fn := fun _ => fun
  | [d1, d2, d3] => { results := [.lit (.bool false)], args := [d1, d2, d3] }
  | _ => none }
def CoreAnyWrongFalsely : Prop := coreAnyRow.holds Try.pinned (OpenSpec.ofChange coreAnyWrong)

/-- 'stereobatelaw10.CoreMade': WHATEVER THE INPUT: true; the input reads as it did. -/
def coreMadeSpec : ChangeSpec := { name := "coreMade", fn := fun _ => fun
  | [d1, d2, d3, d4] => { results := [.lit (.bool true)], args := [d1, d2, d3, d4] }
  | _ => none }
def coreMadeRow : OpenClaim := { program := "ytnfmcenedohdnaa", sum := "68b8a0f88bb747fbde70f09bad09d0f2e57a848cc502691807d7eff69b518990", func := "stereobate/stereobatelaw10.CoreMade", spec := "coreMade", unfollowed := true, recurses := true, apart := false }
def CoreMadeSaid : Prop := coreMadeRow.holds Try.pinned (OpenSpec.ofChange coreMadeSpec)

/-- ITS FALSE NEIGHBOUR: 'it returns false'. Refute it at one input. -/
def coreMadeWrong : ChangeSpec := { name := "coreMade", fn := fun _ => fun
  | [d1, d2, d3, d4] => { results := [.lit (.bool false)], args := [d1, d2, d3, d4] }
  | _ => none }
def CoreMadeWrongFalsely : Prop := coreMadeRow.holds Try.pinned (OpenSpec.ofChange coreMadeWrong)

/-- 'stereobatelaw10.CoreMany': WHATEVER THE INPUT: true; the input reads as it did. -/
def coreManySpec : ChangeSpec := { name := "coreMany", fn := fun _ => fun
  | [d1, d2, d3] => { results := [.lit (.bool true)], args := [d1, d2, d3] }
  | _ => none }
def coreManyRow : OpenClaim := { program := "ytnfmcenedohdnaa", sum := "68b8a0f88bb747fbde70f09bad09d0f2e57a848cc502691807d7eff69b518990", func := "stereobate/stereobatelaw10.CoreMany", spec := "coreMany", unfollowed := true, recurses := true, apart := false }
def CoreManySaid : Prop := coreManyRow.holds Try.pinned (OpenSpec.ofChange coreManySpec)

/-- ITS FALSE NEIGHBOUR: 'it returns false'. Refute it at one input. -/
def coreManyWrong : ChangeSpec := { name := "coreMany", fn := fun _ => fun
  | [d1, d2, d3] => { results := [.lit (.bool false)], args := [d1, d2, d3] }
  | _ => none }
def CoreManyWrongFalsely : Prop := coreManyRow.holds Try.pinned (OpenSpec.ofChange coreManyWrong)

/-- 'stereobatelaw10.CoreProves': WHATEVER THE INPUT: true; the input reads as it did. -/
def coreProvesSpec : ChangeSpec := { name := "coreProves", fn := fun _ => fun
  | [d1, d2] => { results := [.lit (.bool true)], args := [d1, d2] }
  | _ => none }
def coreProvesRow : OpenClaim := { program := "ytnfmcenedohdnaa", sum := "68b8a0f88bb747fbde70f09bad09d0f2e57a848cc502691807d7eff69b518990", func := "stereobate/stereobatelaw10.CoreProves", spec := "coreProves", unfollowed := true, recurses := true, apart := false }
def CoreProvesSaid : Prop := coreProvesRow.holds Try.pinned (OpenSpec.ofChange coreProvesSpec)

/-- ITS FALSE NEIGHBOUR: 'it returns false'. Refute it at one input. -/
def coreProvesWrong : ChangeSpec := { name := "coreProves", fn := fun _ => fun
  | [d1, d2] => { results := [.lit (.bool false)], args := [d1, d2] }
  | _ => none }
def CoreProvesWrongFalsely : Prop := coreProvesRow.holds Try.pinned (OpenSpec.ofChange coreProvesWrong)

/- THE SECOND FORM. 'bulk': how many values and letters a reading holds, each counted each time it is reached (what is shared counts as often as it is met; a slice's spare places count too). A statement '..UptoSaid' is the law's where the arguments, and the package variables that the reading takes, are together of bulk at most 1048576: NARROWER than '..Said'. Prove '..Said' where nothing that the law and all that it calls make is longer than what came in: it says more and counts as full. Else prove '..UptoSaid'. A law counts once. -/
mutual
def uptoBulk {H : Type} : DataW H → Nat
  | .lit (.string bytes) => bytes.length + 1
  | .lit _ => 1
  | .nil => 1
  | .ptr d => uptoBulk d + 1
  | .slice elems spare => uptoBulkAll elems + uptoBulkAll spare + 1
  | .agg parts => uptoBulkAll parts + 1
  | .iface _ d => uptoBulk d + 1
  | .map entries => uptoBulkEntries entries + 1
  | .held _ => 1
def uptoBulkAll {H : Type} : List (DataW H) → Nat
  | [] => 0
  | d :: r => uptoBulk d + uptoBulkAll r
def uptoBulkEntries {H : Type} : List (Lit × DataW H) → Nat
  | [] => 0
  | x :: r => uptoBulkEntry x + uptoBulkEntries r
def uptoBulkEntry {H : Type} : Lit × DataW H → Nat
  | (.string bytes, d) => bytes.length + uptoBulk d + 1
  | (_, d) => uptoBulk d + 1
 end
def uptoSmall : (H : Type) → List (DataW H) → Bool := fun _ ds => decide (uptoBulkAll ds ≤ 1048576)
def OpenSpec.upto (s : _root_.Go.ChangeSpec) : _root_.Go.OpenSpec := { _root_.Go.OpenSpec.ofChange s with cond := some uptoSmall }

/-- 'stereobatelaw10.CoreAny', WHERE WHAT IT READS IS OF BULK AT MOST 1048576: true; the input reads as it did. -/
def coreAnyUptoRow : OpenClaim := { program := "ytnfmcenedohdnaa", sum := "68b8a0f88bb747fbde70f09bad09d0f2e57a848cc502691807d7eff69b518990", func := "stereobate/stereobatelaw10.CoreAny", spec := "coreAny", unfollowed := true, recurses := true, apart := false, narrowed := true }
def CoreAnyUptoSaid : Prop := coreAnyUptoRow.holds Try.pinned (OpenSpec.upto coreAnySpec)

/-- 'stereobatelaw10.CoreMade', WHERE WHAT IT READS IS OF BULK AT MOST 1048576: true; the input reads as it did. -/
def coreMadeUptoRow : OpenClaim := { program := "ytnfmcenedohdnaa", sum := "68b8a0f88bb747fbde70f09bad09d0f2e57a848cc502691807d7eff69b518990", func := "stereobate/stereobatelaw10.CoreMade", spec := "coreMade", unfollowed := true, recurses := true, apart := false, narrowed := true }
def CoreMadeUptoSaid : Prop := coreMadeUptoRow.holds Try.pinned (OpenSpec.upto coreMadeSpec)

/-- 'stereobatelaw10.CoreMany', WHERE WHAT IT READS IS OF BULK AT MOST 1048576: true; the input reads as it did. -/
def coreManyUptoRow : OpenClaim := { program := "ytnfmcenedohdnaa", sum := "68b8a0f88bb747fbde70f09bad09d0f2e57a848cc502691807d7eff69b518990", func := "stereobate/stereobatelaw10.CoreMany", spec := "coreMany", unfollowed := true, recurses := true, apart := false, narrowed := true }
def CoreManyUptoSaid : Prop := coreManyUptoRow.holds Try.pinned (OpenSpec.upto coreManySpec)

/-- 'stereobatelaw10.CoreProves', WHERE WHAT IT READS IS OF BULK AT MOST 1048576: true; the input reads as it did. -/
def coreProvesUptoRow : OpenClaim := { program := "ytnfmcenedohdnaa", sum := "68b8a0f88bb747fbde70f09bad09d0f2e57a848cc502691807d7eff69b518990", func := "stereobate/stereobatelaw10.CoreProves", spec := "coreProves", unfollowed := true, recurses := true, apart := false, narrowed := true }
def CoreProvesUptoSaid : Prop := coreProvesUptoRow.holds Try.pinned (OpenSpec.upto coreProvesSpec)

end Rows
end Go.Proofs.Ytnfmcenedohdnaa
