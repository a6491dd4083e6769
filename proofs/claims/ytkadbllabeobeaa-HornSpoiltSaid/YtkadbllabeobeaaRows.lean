/-
  No cell of these rows narrows 'for every input' (looked for: loops, veiled, ifaces, maps, wideKeys, modest, calm, conditions, laid).
  DERIVED. THE GIVEN ROWS OF THIS SEAT. 4 by the template 'for every input the law returns true; each argument reads behind the call as it read before'; 0 by the template 'total and deterministic' (their statements: YtkadbllabeobeaaTotals.lean).
  GIVEN WITH THE SEED: the statements are not yours to turn. If you find one false, say at which input.
  Laid BY PROGRAM, IN A SANDBOX (cutbox-rows.mjs): the forced cells as the released guide's own fill.sh prints them over the translation 04127dcc2fcea5cc… (all of the seat's roots in one cut). By AI agents, Wed Nov 11 2026. No macro, syntax, notation, axiom, sorry.
-/
import Derived.Test.YtkadbllabeobeaaChecked
import GoSem.Claim
import GoSem.ClaimJoined
import GoSem.ClaimMapViews
import Derived.JoinedTies
import Derived.KernelRfl
namespace Go.Proofs.Ytkadbllabeobeaa
/- THE CELL 'sum', in the pinned program and in every row, IS THE sha256 OF THE DUMP (.gsa) THAT YtkadbllabeobeaaProg.lean LOADS. Nothing in Lean hashes anything: it is a label: what it is worth is what the hold of that sum in a sandbox is worth. -/
noncomputable def Try.pinned : Pinned := { name := "ytkadbllabeobeaa", sum := "04127dcc2fcea5cccb1bd000bde1b24086196fb4a99117e90034b6dec26b6395", checked := Try.checked }
namespace Rows
def none {H : Type} : Left H := { results := [], args := [] }

/-- 'stereobatelaw08.HornAny': WHATEVER THE INPUT: true; the input reads as it did. -/
def hornAnySpec : ChangeSpec := { name := "hornAny", fn := fun _ => fun
  | [d1, d2, d3] => { results := [.lit (.bool true)], args := [d1, d2, d3] }
  | _ => none }
def hornAnyRow : OpenClaim := { program := "ytkadbllabeobeaa", sum := "04127dcc2fcea5cccb1bd000bde1b24086196fb4a99117e90034b6dec26b6395", func := "stereobate/stereobatelaw08.HornAny", spec := "hornAny", unfollowed := true, recurses := true, apart := false }
def HornAnySaid : Prop := hornAnyRow.holds Try.pinned (OpenSpec.ofChange hornAnySpec)

/-- ITS FALSE NEIGHBOUR: 'it returns false'. Refute it at one input. -/
def hornAnyWrong : ChangeSpec := { name := "hornAny", fn := fun _ => fun
  | [d1, d2, d3] => { results := [.lit (.bool false)], args := [d1, d2, d3] }
  | _ => none }
def HornAnyWrongFalsely : Prop := hornAnyRow.holds Try.pinned (OpenSpec.ofChange hornAnyWrong)

/-- 'stereobatelaw08.HornMade': WHATEVER THE INPUT: true; the input reads as it did. -/
def hornMadeSpec : ChangeSpec := { name := "hornMade", fn := fun _ => fun
  | [d1, d2, d3] => { results := [.lit (.bool true)], args := [d1, d2, d3] }
  | _ => none }
def hornMadeRow : OpenClaim := { program := "ytkadbllabeobeaa", sum := "04127dcc2fcea5cccb1bd000bde1b24086196fb4a99117e90034b6dec26b6395", func := "stereobate/stereobatelaw08.HornMade", spec := "hornMade", unfollowed := true, recurses := true, apart := false }
def HornMadeSaid : Prop := hornMadeRow.holds Try.pinned (OpenSpec.ofChange hornMadeSpec)

/-- ITS FALSE NEIGHBOUR: 'it returns false'. Refute it at one input. -/
def hornMadeWrong : ChangeSpec := { name := "hornMade", fn := fun _ => fun
  | [d1, d2, d3] => { results := [.lit (.bool false)], args := [d1, d2, d3] }
  | _ => none }
def HornMadeWrongFalsely : Prop := hornMadeRow.holds Try.pinned (OpenSpec.ofChange hornMadeWrong)

/-- 'stereobatelaw08.HornSpoilt': WHATEVER THE INPUT: true; the input reads as it did. -/
def hornSpoiltSpec : ChangeSpec := { name := "hornSpoilt", fn := fun _ => fun
  | [d1, d2, d3, d4, d5] => { results := [.lit (.bool true)], args := [d1, d2, d3, d4, d5] }
  | _ => none }
def hornSpoiltRow : OpenClaim := { program := "ytkadbllabeobeaa", sum := "04127dcc2fcea5cccb1bd000bde1b24086196fb4a99117e90034b6dec26b6395", func := "stereobate/stereobatelaw08.HornSpoilt", spec := "hornSpoilt", unfollowed := true, recurses := true, apart := false }
def HornSpoiltSaid : Prop := hornSpoiltRow.holds Try.pinned (OpenSpec.ofChange hornSpoiltSpec)

/-- ITS FALSE NEIGHBOUR: 'it returns false'. Refute it at one input. -/
def hornSpoiltWrong : ChangeSpec := { name := "hornSpoilt", fn := fun _ => fun
  | [d1, d2, d3, d4, d5] => { results := [.lit (.bool false)], args := [d1, d2, d3, d4, d5] }
  | _ => none }
def HornSpoiltWrongFalsely : Prop := hornSpoiltRow.holds Try.pinned (OpenSpec.ofChange hornSpoiltWrong)

/-- 'stereobatelaw08.HornLesser': WHATEVER THE INPUT: true; the input reads as it did. -/
def hornLesserSpec : ChangeSpec := { name := "hornLesser", fn := fun _ => fun
  | [d1, d2, d3, d4, d5] => { results := [.lit (.bool true)], args := [d1, d2, d3, d4, d5] }
  | _ => none }
def hornLesserRow : OpenClaim := { program := "ytkadbllabeobeaa", sum := "04127dcc2fcea5cccb1bd000bde1b24086196fb4a99117e90034b6dec26b6395", func := "stereobate/stereobatelaw08.HornLesser", spec := "hornLesser", unfollowed := true, recurses := true, apart := false }
def HornLesserSaid : Prop := hornLesserRow.holds Try.pinned (OpenSpec.ofChange hornLesserSpec)

/-- ITS FALSE NEIGHBOUR: 'it returns false'. Refute it at one input. -/
def hornLesserWrong : ChangeSpec := { name := "hornLesser", fn := fun _ => fun
  | [d1, d2, d3, d4, d5] => { results := [.lit (.bool false)], args := [d1, d2, d3, d4, d5] }
  | _ => none }
def HornLesserWrongFalsely : Prop := hornLesserRow.holds Try.pinned (OpenSpec.ofChange hornLesserWrong)

/- THE SECOND FORM. 'bulk': how many values and letters a reading holds, each counted each time it is reached (what is shared counts as often as it is met; a slice's spare places count too). A statement '..UptoSaid' is the law's where the arguments, and the package variables that the reading takes, are together of bulk at most 1048576: NARROWER than '..Said'. Prove '..Said' where nothing that the law and all that it calls make is longer than what came in: it says more and counts as full. Else prove '..UptoSaid'. A law counts once. -/
mutual
def uptoBulk {H : Type} : DataW H → Nat
  | .lit (.string bytes) => bytes.length + 1
  | .lit _ => 1
  | .nil => 1
  | .ptr d => uptoBulk d + 1
  | .slice elems spare => uptoBulkAll elems + uptoBulkAll spare + 1
  | .agg parts => uptoBulkAll parts + 1
  | .iface _ d => uptoBulk d + 1
  | .map entries => uptoBulkEntries entries + 1
  | .held _ => 1
def uptoBulkAll {H : Type} : List (DataW H) → Nat
  | [] => 0
  | d :: r => uptoBulk d + uptoBulkAll r
def uptoBulkEntries {H : Type} : List (Lit × DataW H) → Nat
  | [] => 0
  | x :: r => uptoBulkEntry x + uptoBulkEntries r
def uptoBulkEntry {H : Type} : Lit × DataW H → Nat
  | (.string bytes, d) => bytes.length + uptoBulk d + 1
  | (_, d) => uptoBulk d + 1
 end
def uptoSmall : (H : Type) → List (DataW H) → Bool := fun _ ds => decide (uptoBulkAll ds ≤ 1048576)
def OpenSpec.upto (s : _root_.Go.ChangeSpec) : _root_.Go.OpenSpec := { _root_.Go.OpenSpec.ofChange s with cond := some uptoSmall }

/-- 'stereobatelaw08.HornAny', WHERE WHAT IT READS IS OF BULK AT MOST 1048576: true; the input reads as it did. -/
def hornAnyUptoRow : OpenClaim := { program := "ytkadbllabeobeaa", sum := "04127dcc2fcea5cccb1bd000bde1b24086196fb4a99117e90034b6dec26b6395", func := "stereobate/stereobatelaw08.HornAny", spec := "hornAny", unfollowed := true, recurses := true, apart := false, narrowed := true }
def HornAnyUptoSaid : Prop := hornAnyUptoRow.holds Try.pinned (OpenSpec.upto hornAnySpec)

/-- 'stereobatelaw08.HornMade', WHERE WHAT IT READS IS OF BULK AT MOST 1048576: true; the input reads as it did. -/
def hornMadeUptoRow : OpenClaim := { program := "ytkadbllabeobeaa", sum := "04127dcc2fcea5cccb1bd000bde1b24086196fb4a99117e90034b6dec26b6395", func := "stereobate/stereobatelaw08.HornMade", spec := "hornMade", unfollowed := true, recurses := true, apart := false, narrowed := true }
def HornMadeUptoSaid : Prop := hornMadeUptoRow.holds Try.pinned (OpenSpec.upto hornMadeSpec)

/-- 'stereobatelaw08.HornSpoilt', WHERE WHAT IT READS IS OF BULK AT MOST 1048576: true; the input reads as it did. -/
def hornSpoiltUptoRow : OpenClaim := { program := "ytkadbllabeobeaa", sum := "04127dcc2fcea5cccb1bd000bde1b24086196fb4a99117e90034b6dec26b6395", func := "stereobate/stereobatelaw08.HornSpoilt", spec := "hornSpoilt", unfollowed := true, recurses := true, apart := false, narrowed := true }
def HornSpoiltUptoSaid : Prop := hornSpoiltUptoRow.holds Try.pinned (OpenSpec.upto hornSpoiltSpec)

/-- 'stereobatelaw08.HornLesser', WHERE WHAT IT READS IS OF BULK AT MOST 1048576: true; the input reads as it did. -/
def hornLesserUptoRow : OpenClaim := { program := "ytkadbllabeobeaa", sum := "04127dcc2fcea5cccb1bd000bde1b24086196fb4a99117e90034b6dec26b6395", func := "stereobate/stereobatelaw08.HornLesser", spec := "hornLesser", unfollowed := true, recurses := true, apart := false, narrowed := true }
def HornLesserUptoSaid : Prop := hornLesserUptoRow.holds Try.pinned (OpenSpec.upto hornLesserSpec)

end Rows
end Go.Proofs.Ytkadbllabeobeaa
