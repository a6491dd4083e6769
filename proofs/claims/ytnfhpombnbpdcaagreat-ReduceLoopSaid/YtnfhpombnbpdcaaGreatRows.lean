/-
  NARROWER THAN 'FOR EVERY INPUT', by the rows' own cells (each row's printed sentence says how): ReduceAny: loops.
  DERIVED. THE GIVEN ROWS OF THIS SEAT. 4 by the template 'for every input the law returns true; each argument reads behind the call as it read before'; 0 by the template 'total and deterministic' (their statements: YtnfhpombnbpdcaaGreatTotals.lean).
  GIVEN WITH THE SEED: the statements are not yours to turn. If you find one false, say at which input.
  Laid BY PROGRAM, IN A SANDBOX (cutbox-rows.mjs): the forced cells as the released guide's own fill.sh prints them over the translation e90677a30f3ebc70… (all of the seat's roots in one cut). By AI agents, Wed Nov 11 2026. No macro, syntax, notation, axiom, sorry.
-/
import Derived.Test.YtnfhpombnbpdcaaGreatChecked
import GoSem.Claim
import GoSem.ClaimJoined
import GoSem.ClaimMapViews
import Derived.JoinedTies
import Derived.KernelRfl
namespace Go.Proofs.YtnfhpombnbpdcaaGreat
/- THE CELL 'sum', in the pinned program and in every row, IS THE sha256 OF THE DUMP (.gsa) THAT YtnfhpombnbpdcaaGreatProg.lean LOADS. Nothing in Lean hashes anything: it is a label: what it is worth is what the hold of that sum in a sandbox is worth. -/
noncomputable def Tryz.pinned : Pinned := { name := "ytnfhpombnbpdcaagreat", sum := "e90677a30f3ebc70968977ec436015f347c90d03f6262786201b0204863a57e4", checked := Tryz.checked }
namespace Rows
def none {H : Type} : Left H := { results := [], args := [] }

/-- 'stereobatelaw16.ReduceMade': WHATEVER THE INPUT: true; the input reads as it did. -/
def reduceMadeSpec : ChangeSpec := { name := "reduceMade", fn := fun _ => fun
  | [d1, d2, d3, d4] => { results := [.lit (.bool true)], args := [d1, d2, d3, d4] }
  | _ => none }
def reduceMadeRow : OpenClaim := { program := "ytnfhpombnbpdcaagreat", sum := "e90677a30f3ebc70968977ec436015f347c90d03f6262786201b0204863a57e4", func := "stereobate/stereobatelaw16.ReduceMade", spec := "reduceMade", unfollowed := true, recurses := true, apart := false }
def ReduceMadeSaid : Prop := reduceMadeRow.holds Tryz.pinned (OpenSpec.ofChange reduceMadeSpec)

/-- ITS FALSE NEIGHBOUR: 'it returns false'. Refute it at one input. -/
def reduceMadeWrong : ChangeSpec := { name := "reduceMade", fn := fun _ => fun
  | [d1, d2, d3, d4] => { results := [.lit (.bool false)], args := [d1, d2, d3, d4] }
  | _ => none }
def ReduceMadeWrongFalsely : Prop := reduceMadeRow.holds Tryz.pinned (OpenSpec.ofChange reduceMadeWrong)

/-- 'stereobatelaw16.ReduceAny': WHATEVER THE INPUT: true; the input reads as it did. -/
def reduceAnySpec : ChangeSpec := { name := "reduceAny", fn := fun _ => fun
  | [d1, d2, d3] => { results := [.lit (.bool true)], args := [d1, d2, d3] }
  | _ => none }
def reduceAnyRow : OpenClaim := { program := "ytnfhpombnbpdcaagreat", sum := "e90677a30f3ebc70968977ec436015f347c90d03f6262786201b0204863a57e4", func := "stereobate/stereobatelaw16.ReduceAny", spec := "reduceAny", unfollowed := true, recurses := true, loops := true, apart := false }
def ReduceAnySaid : Prop := reduceAnyRow.holds Tryz.pinned (OpenSpec.ofChange reduceAnySpec)

/-- ITS FALSE NEIGHBOUR: 'it returns false'. Refute it at one input. -/
def reduceAnyWrong : ChangeSpec := { name := "reduceAny", fn := fun _ => fun
  | [d1, d2, d3] => { results := [.lit (.bool false)], args := [d1, d2, d3] }
  | _ => none }
def ReduceAnyWrongFalsely : Prop := reduceAnyRow.holds Tryz.pinned (OpenSpec.ofChange reduceAnyWrong)

/-- 'stereobatelaw16.ReduceSpoilt': WHATEVER THE INPUT: true; the input reads as it did. -/
def reduceSpoiltSpec : ChangeSpec := { name := "reduceSpoilt", fn := fun _ => fun
  | [d1, d2, d3, d4] => { results := [.lit (.bool true)], args := [d1, d2, d3, d4] }
  | _ => none }
def reduceSpoiltRow : OpenClaim := { program := "ytnfhpombnbpdcaagreat", sum := "e90677a30f3ebc70968977ec436015f347c90d03f6262786201b0204863a57e4", func := "stereobate/stereobatelaw16.ReduceSpoilt", spec := "reduceSpoilt", unfollowed := true, recurses := true, apart := false }
def ReduceSpoiltSaid : Prop := reduceSpoiltRow.holds Tryz.pinned (OpenSpec.ofChange reduceSpoiltSpec)

/-- ITS FALSE NEIGHBOUR: 'it returns false'. Refute it at one input. -/
def reduceSpoiltWrong : ChangeSpec := { name := "reduceSpoilt", fn := fun _ => fun
  | [d1, d2, d3, d4] => { results := [.lit (.bool false)], args := [d1, d2, d3, d4] }
  | _ => none }
def ReduceSpoiltWrongFalsely : Prop := reduceSpoiltRow.holds Tryz.pinned (OpenSpec.ofChange reduceSpoiltWrong)

/-- 'stereobatelaw16.ReduceLoop': WHATEVER THE INPUT: true; the input reads as it did. -/
def reduceLoopSpec : ChangeSpec := { name := "reduceLoop", fn := fun _ => fun
  | [d1, d2, d3] => { results := [.lit (.bool true)], args := [d1, d2, d3] }
  | _ => none }
def reduceLoopRow : OpenClaim := { program := "ytnfhpombnbpdcaagreat", sum := "e90677a30f3ebc70968977ec436015f347c90d03f6262786201b0204863a57e4", func := "stereobate/stereobatelaw16.ReduceLoop", spec := "reduceLoop", unfollowed := true, recurses := true, apart := false }
def ReduceLoopSaid : Prop := reduceLoopRow.holds Tryz.pinned (OpenSpec.ofChange reduceLoopSpec)

/-- ITS FALSE NEIGHBOUR: 'it returns false'. Refute it at one input. -/
def reduceLoopWrong : ChangeSpec := { name := "reduceLoop", fn := fun _ => fun
  | [d1, d2, d3] => { results := [.lit (.bool false)], args := [d1, d2, d3] }
  | _ => none }
def ReduceLoopWrongFalsely : Prop := reduceLoopRow.holds Tryz.pinned (OpenSpec.ofChange reduceLoopWrong)

/- THE SECOND FORM. 'bulk': how many values and letters a reading holds, each counted each time it is reached (what is shared counts as often as it is met; a slice's spare places count too). A statement '..UptoSaid' is the law's where the arguments, and the package variables that the reading takes, are together of bulk at most 1048576: NARROWER than '..Said'. Prove '..Said' where nothing that the law and all that it calls make is longer than what came in: it says more and counts as full. Else prove '..UptoSaid'. A law counts once. -/
mutual
def uptoBulk {H : Type} : DataW H → Nat
  | .lit (.string bytes) => bytes.length + 1
  | .lit _ => 1
  | .nil => 1
  | .ptr d => uptoBulk d + 1
  | .slice elems spare => uptoBulkAll elems + uptoBulkAll spare + 1
  | .agg parts => uptoBulkAll parts + 1
  | .iface _ d => uptoBulk d + 1
  | .map entries => uptoBulkEntries entries + 1
  | .held _ => 1
def uptoBulkAll {H : Type} : List (DataW H) → Nat
  | [] => 0
  | d :: r => uptoBulk d + uptoBulkAll r
def uptoBulkEntries {H : Type} : List (Lit × DataW H) → Nat
  | [] => 0
  | x :: r => uptoBulkEntry x + uptoBulkEntries r
def uptoBulkEntry {H : Type} : Lit × DataW H → Nat
  | (.string bytes, d) => bytes.length + uptoBulk d + 1
  | (_, d) => uptoBulk d + 1
 end
def uptoSmall : (H : Type) → List (DataW H) → Bool := fun _ ds => decide (uptoBulkAll ds ≤ 1048576)
def OpenSpec.upto (s : _root_.Go.ChangeSpec) : _root_.Go.OpenSpec := { _root_.Go.OpenSpec.ofChange s with cond := some uptoSmall }

/-- 'stereobatelaw16.ReduceMade', WHERE WHAT IT READS IS OF BULK AT MOST 1048576: true; the input reads as it did. -/
def reduceMadeUptoRow : OpenClaim := { program := "ytnfhpombnbpdcaagreat", sum := "e90677a30f3ebc70968977ec436015f347c90d03f6262786201b0204863a57e4", func := "stereobate/stereobatelaw16.ReduceMade", spec := "reduceMade", unfollowed := true, recurses := true, apart := false, narrowed := true }
def ReduceMadeUptoSaid : Prop := reduceMadeUptoRow.holds Tryz.pinned (OpenSpec.upto reduceMadeSpec)

/-- 'stereobatelaw16.ReduceAny', WHERE WHAT IT READS IS OF BULK AT MOST 1048576: true; the input reads as it did. -/
def reduceAnyUptoRow : OpenClaim := { program := "ytnfhpombnbpdcaagreat", sum := "e90677a30f3ebc70968977ec436015f347c90d03f6262786201b0204863a57e4", func := "stereobate/stereobatelaw16.ReduceAny", spec := "reduceAny", unfollowed := true, recurses := true, loops := true, apart := false, narrowed := true }
def ReduceAnyUptoSaid : Prop := reduceAnyUptoRow.holds Tryz.pinned (OpenSpec.upto reduceAnySpec)

/-- 'stereobatelaw16.ReduceSpoilt', WHERE WHAT IT READS IS OF BULK AT MOST 1048576: true; the input reads as it did. -/
def reduceSpoiltUptoRow : OpenClaim := { program := "ytnfhpombnbpdcaagreat", sum := "e90677a30f3ebc70968977ec436015f347c90d03f6262786201b0204863a57e4", func := "stereobate/stereobatelaw16.ReduceSpoilt", spec := "reduceSpoilt", unfollowed := true, recurses := true, apart := false, narrowed := true }
def ReduceSpoiltUptoSaid : Prop := reduceSpoiltUptoRow.holds Tryz.pinned (OpenSpec.upto reduceSpoiltSpec)

/-- 'stereobatelaw16.ReduceLoop', WHERE WHAT IT READS IS OF BULK AT MOST 1048576: true; the input reads as it did. -/
def reduceLoopUptoRow : OpenClaim := { program := "ytnfhpombnbpdcaagreat", sum := "e90677a30f3ebc70968977ec436015f347c90d03f6262786201b0204863a57e4", func := "stereobate/stereobatelaw16.ReduceLoop", spec := "reduceLoop", unfollowed := true, recurses := true, apart := false, narrowed := true }
def ReduceLoopUptoSaid : Prop := reduceLoopUptoRow.holds Tryz.pinned (OpenSpec.upto reduceLoopSpec)

end Rows
end Go.Proofs.YtnfhpombnbpdcaaGreat
