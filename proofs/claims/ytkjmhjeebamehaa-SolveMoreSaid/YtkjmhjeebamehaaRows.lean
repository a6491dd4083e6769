/-
  No cell of these rows narrows 'for every input' (looked for: loops, veiled, ifaces, maps, wideKeys, modest, calm, conditions, laid).
  DERIVED. THE GIVEN ROWS OF THIS SEAT. 5 by the template 'for every input the law returns true; each argument reads behind the call as it read before'; 0 by the template 'total and deterministic' (their statements: YtkjmhjeebamehaaTotals.lean).
  GIVEN WITH THE SEED: the statements are not yours to turn. If you find one false, say at which input.
  Laid BY PROGRAM, IN A SANDBOX (cutbox-rows.mjs): the forced cells as the released guide's own fill.sh prints them over the translation f98b76b3dd011824… (all of the seat's roots in one cut). By AI agents, Wed Nov 11 2026. No macro, syntax, notation, axiom, sorry.
-/
import Derived.Test.YtkjmhjeebamehaaChecked
import GoSem.Claim
import GoSem.ClaimJoined
import GoSem.ClaimMapViews
import Derived.JoinedTies
import Derived.KernelRfl
namespace Go.Proofs.Ytkjmhjeebamehaa
/- THE CELL 'sum', in the pinned program and in every row, IS THE sha256 OF THE DUMP (.gsa) THAT YtkjmhjeebamehaaProg.lean LOADS. Nothing in Lean hashes anything: it is a label: what it is worth is what the hold of that sum in a sandbox is worth. -/
noncomputable def Try.pinned : Pinned := { name := "ytkjmhjeebamehaa", sum := "f98b76b3dd011824408a67ce125a771bbe16998000710ee66261a14339c12734", checked := Try.checked }
namespace Rows
def none {H : Type} : Left H := { results := [], args := [] }

/-- 'stereobatelaw09.SolveMade': WHATEVER THE INPUT: true; the input reads as it did. -/
def solveMadeSpec : ChangeSpec := { name := "solveMade", fn := fun _ => fun
  | [d1, d2, d3] => { results := [.lit (.bool true)], args := [d1, d2, d3] }
  | _ => none }
def solveMadeRow : OpenClaim := { program := "ytkjmhjeebamehaa", sum := "f98b76b3dd011824408a67ce125a771bbe16998000710ee66261a14339c12734", func := "stereobate/stereobatelaw09.SolveMade", spec := "solveMade", unfollowed := true, recurses := true, apart := false }
def SolveMadeSaid : Prop := solveMadeRow.holds Try.pinned (OpenSpec.ofChange solveMadeSpec)

/-- ITS FALSE NEIGHBOUR: 'it returns false'. Refute it at one input. -/
def solveMadeWrong : ChangeSpec := { name := "solveMade", fn := fun _ => fun
  | [d1, d2, d3] => { results := [.lit (.bool false)], args := [d1, d2, d3] }
  | _ => none }
def SolveMadeWrongFalsely : Prop := solveMadeRow.holds Try.pinned (OpenSpec.ofChange solveMadeWrong)

/-- 'stereobatelaw09.SolveChain': WHATEVER THE INPUT: true; the input reads as it did. -/
def solveChainSpec : ChangeSpec := { name := "solveChain", fn := fun _ => fun
  | [d1, d2, d3, d4] => { results := [.lit (.bool true)], args := [d1, d2, d3, d4] }
  | _ => none }
def solveChainRow : OpenClaim := { program := "ytkjmhjeebamehaa", sum := "f98b76b3dd011824408a67ce125a771bbe16998000710ee66261a14339c12734", func := "stereobate/stereobatelaw09.SolveChain", spec := "solveChain", unfollowed := true, recurses := true, apart := false }
def SolveChainSaid : Prop := solveChainRow.holds Try.pinned (OpenSpec.ofChange solveChainSpec)

/-- ITS FALSE NEIGHBOUR: 'it returns false'. Refute it at one input. -/
def solveChainWrong : ChangeSpec := { name := "solveChain", fn := fun _ => fun
  | [d1, d2, d3, d4] => { results := [.lit (.bool false)], args := [d1, d2, d3, d4] }
  | _ => none }
def SolveChainWrongFalsely : Prop := solveChainRow.holds Try.pinned (OpenSpec.ofChange solveChainWrong)

/-- 'stereobatelaw09.SolveLeast': WHATEVER THE INPUT: true; the input reads as it did. -/
def solveLeastSpec : ChangeSpec := { name := "solveLeast", fn := fun _ => fun
  | [d1, d2, d3] => { results := [.lit (.bool true)], args := [d1, d2, d3] }
  | _ => none }
def solveLeastRow : OpenClaim := { program := "ytkjmhjeebamehaa", sum := "f98b76b3dd011824408a67ce125a771bbe16998000710ee66261a14339c12734", func := "stereobate/stereobatelaw09.SolveLeast", spec := "solveLeast", unfollowed := true, recurses := true, apart := false }
def SolveLeastSaid : Prop := solveLeastRow.holds Try.pinned (OpenSpec.ofChange solveLeastSpec)

/-- ITS FALSE NEIGHBOUR: 'it returns false'. Refute it at one input. -/
def solveLeastWrong : ChangeSpec := { name := "solveLeast", fn := fun _ => fun
  | [d1, d2, d3] => { results := [.lit (.bool false)], args := [d1, d2, d3] }
  | _ => none }
def SolveLeastWrongFalsely : Prop := solveLeastRow.holds Try.pinned (OpenSpec.ofChange solveLeastWrong)

/-- 'stereobatelaw09.SolveFrom': WHATEVER THE INPUT: true; the input reads as it did. -/
def solveFromSpec : ChangeSpec := { name := "solveFrom", fn := fun _ => fun
  | [d1, d2, d3, d4] => { results := [.lit (.bool true)], args := [d1, d2, d3, d4] }
  | _ => none }
def solveFromRow : OpenClaim := { program := "ytkjmhjeebamehaa", sum := "f98b76b3dd011824408a67ce125a771bbe16998000710ee66261a14339c12734", func := "stereobate/stereobatelaw09.SolveFrom", spec := "solveFrom", unfollowed := true, recurses := true, apart := false }
def SolveFromSaid : Prop := solveFromRow.holds Try.pinned (OpenSpec.ofChange solveFromSpec)

/-- ITS FALSE NEIGHBOUR: 'it returns false'. Refute it at one input. -/
def solveFromWrong : ChangeSpec := { name := "solveFrom", fn := fun _ => fun
  | [d1, d2, d3, d4] => { results := [.lit (.bool false)], args := [d1, d2, d3, d4] }
  | _ => none }
def SolveFromWrongFalsely : Prop := solveFromRow.holds Try.pinned (OpenSpec.ofChange solveFromWrong)

/-- 'stereobatelaw09.SolveMore': WHATEVER THE INPUT: true; the input reads as it did. -/
def solveMoreSpec : ChangeSpec := { name := "solveMore", fn := fun _ => fun
  | [d1, d2, d3] => { results := [.lit (.bool true)], args := [d1, d2, d3] }
  | _ => none }
def solveMoreRow : OpenClaim := { program := "ytkjmhjeebamehaa", sum := "f98b76b3dd011824408a67ce125a771bbe16998000710ee66261a14339c12734", func := "stereobate/stereobatelaw09.SolveMore", spec := "solveMore", unfollowed := true, recurses := true, apart := false }
def SolveMoreSaid : Prop := solveMoreRow.holds Try.pinned (OpenSpec.ofChange solveMoreSpec)

/-- ITS FALSE NEIGHBOUR: 'it returns false'. Refute it at one input. -/
def solveMoreWrong : ChangeSpec := { name := "solveMore", fn := fun _ => fun
  | [d1, d2, d3] => { results := [.lit (.bool false)], args := [d1, d2, d3] }
  | _ => none }
def SolveMoreWrongFalsely : Prop := solveMoreRow.holds Try.pinned (OpenSpec.ofChange solveMoreWrong)

/- THE SECOND FORM. 'bulk': how many values and letters a reading holds, each counted each time it is reached (what is shared counts as often as it is met; a slice's spare places count too). A statement '..UptoSaid' is the law's where the arguments, and the package variables that the reading takes, are together of bulk at most 1048576: NARROWER than '..Said'. Prove '..Said' where nothing that the law and all that it calls make is longer than what came in: it says more and counts as full. Else prove '..UptoSaid'. A law counts once. -/
mutual
def uptoBulk {H : Type} : DataW H → Nat
  | .lit (.string bytes) => bytes.length + 1
  | .lit _ => 1
  | .nil => 1
  | .ptr d => uptoBulk d + 1
  | .slice elems spare => uptoBulkAll elems + uptoBulkAll spare + 1
  | .agg parts => uptoBulkAll parts + 1
  | .iface _ d => uptoBulk d + 1
  | .map entries => uptoBulkEntries entries + 1
  | .held _ => 1
def uptoBulkAll {H : Type} : List (DataW H) → Nat
  | [] => 0
  | d :: r => uptoBulk d + uptoBulkAll r
def uptoBulkEntries {H : Type} : List (Lit × DataW H) → Nat
  | [] => 0
  | x :: r => uptoBulkEntry x + uptoBulkEntries r
def uptoBulkEntry {H : Type} : Lit × DataW H → Nat
  | (.string bytes, d) => bytes.length + uptoBulk d + 1
  | (_, d) => uptoBulk d + 1
 end
def uptoSmall : (H : Type) → List (DataW H) → Bool := fun _ ds => decide (uptoBulkAll ds ≤ 1048576)
def OpenSpec.upto (s : _root_.Go.ChangeSpec) : _root_.Go.OpenSpec := { _root_.Go.OpenSpec.ofChange s with cond := some uptoSmall }

/-- 'stereobatelaw09.SolveMade', WHERE WHAT IT READS IS OF BULK AT MOST 1048576: true; the input reads as it did. -/
def solveMadeUptoRow : OpenClaim := { program := "ytkjmhjeebamehaa", sum := "f98b76b3dd011824408a67ce125a771bbe16998000710ee66261a14339c12734", func := "stereobate/stereobatelaw09.SolveMade", spec := "solveMade", unfollowed := true, recurses := true, apart := false, narrowed := true }
def SolveMadeUptoSaid : Prop := solveMadeUptoRow.holds Try.pinned (OpenSpec.upto solveMadeSpec)

/-- 'stereobatelaw09.SolveChain', WHERE WHAT IT READS IS OF BULK AT MOST 1048576: true; the input reads as it did. -/
def solveChainUptoRow : OpenClaim := { program := "ytkjmhjeebamehaa", sum := "f98b76b3dd011824408a67ce125a771bbe16998000710ee66261a14339c12734", func := "stereobate/stereobatelaw09.SolveChain", spec := "solveChain", unfollowed := true, recurses := true, apart := false, narrowed := true }
def SolveChainUptoSaid : Prop := solveChainUptoRow.holds Try.pinned (OpenSpec.upto solveChainSpec)

/-- 'stereobatelaw09.SolveLeast', WHERE WHAT IT READS IS OF BULK AT MOST 1048576: true; the input reads as it did. -/
def solveLeastUptoRow : OpenClaim := { program := "ytkjmhjeebamehaa", sum := "f98b76b3dd011824408a67ce125a771bbe16998000710ee66261a14339c12734", func := "stereobate/stereobatelaw09.SolveLeast", spec := "solveLeast", unfollowed := true, recurses := true, apart := false, narrowed := true }
def SolveLeastUptoSaid : Prop := solveLeastUptoRow.holds Try.pinned (OpenSpec.upto solveLeastSpec)

/-- 'stereobatelaw09.SolveFrom', WHERE WHAT IT READS IS OF BULK AT MOST 1048576: true; the input reads as it did. -/
def solveFromUptoRow : OpenClaim := { program := "ytkjmhjeebamehaa", sum := "f98b76b3dd011824408a67ce125a771bbe16998000710ee66261a14339c12734", func := "stereobate/stereobatelaw09.SolveFrom", spec := "solveFrom", unfollowed := true, recurses := true, apart := false, narrowed := true }
def SolveFromUptoSaid : Prop := solveFromUptoRow.holds Try.pinned (OpenSpec.upto solveFromSpec)

/-- 'stereobatelaw09.SolveMore', WHERE WHAT IT READS IS OF BULK AT MOST 1048576: true; the input reads as it did. -/
def solveMoreUptoRow : OpenClaim := { program := "ytkjmhjeebamehaa", sum := "f98b76b3dd011824408a67ce125a771bbe16998000710ee66261a14339c12734", func := "stereobate/stereobatelaw09.SolveMore", spec := "solveMore", unfollowed := true, recurses := true, apart := false, narrowed := true }
def SolveMoreUptoSaid : Prop := solveMoreUptoRow.holds Try.pinned (OpenSpec.upto solveMoreSpec)

end Rows
end Go.Proofs.Ytkjmhjeebamehaa
