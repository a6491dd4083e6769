/-
  NARROWER THAN 'FOR EVERY INPUT', by the rows' own cells (each row's printed sentence says how): TermAny: loops.
  DERIVED. THE GIVEN ROWS OF THIS SEAT. 5 by the template 'for every input the law returns true; each argument reads behind the call as it read before'; 0 by the template 'total and deterministic' (their statements: YtokckghedpdfiaaTotals.lean).
  GIVEN WITH THE SEED: the statements are not yours to turn. If you find one false, say at which input.
  Laid BY PROGRAM, IN A SANDBOX (cutbox-rows.mjs): the forced cells as the released guide's own fill.sh prints them over the translation 510034088975cb1c… (all of the seat's roots in one cut). By AI agents, Wed Nov 11 2026. No macro, syntax, notation, axiom, sorry.
-/
import Derived.Test.YtokckghedpdfiaaChecked
import GoSem.Claim
import GoSem.ClaimJoined
import GoSem.ClaimMapViews
import Derived.JoinedTies
import Derived.KernelRfl
namespace Go.Proofs.Ytokckghedpdfiaa
/- THE CELL 'sum', in the pinned program and in every row, IS THE sha256 OF THE DUMP (.gsa) THAT YtokckghedpdfiaaProg.lean LOADS. Nothing in Lean hashes anything: it is a label: what it is worth is what the hold of that sum in a sandbox is worth. -/
noncomputable def Try.pinned : Pinned := { name := "ytokckghedpdfiaa", sum := "510034088975cb1c3efbb7f9af9f9782ffd188df1fc6261e300e1265b4d15f51", checked := Try.checked }
namespace Rows
def none {H : Type} : Left H := { results := [], args := [] }

/-- 'stereobatelaw13.TermAny': WHATEVER THE INPUT: true; the input reads as it did. -/
def termAnySpec : ChangeSpec := { name := "termAny", fn := fun _ => fun
  | [d1, d2, d3, d4] => { results := [.lit (.bool true)], args := [d1, d2, d3, d4] }
  | _ => none }
def termAnyRow : OpenClaim := { program := "ytokckghedpdfiaa", sum := "510034088975cb1c3efbb7f9af9f9782ffd188df1fc6261e300e1265b4d15f51", func := "stereobate/stereobatelaw13.TermAny", spec := "termAny", unfollowed := true, recurses := true, loops := true, apart := false }
def TermAnySaid : Prop := termAnyRow.holds Try.pinned (OpenSpec.ofChange termAnySpec)

/-- ITS FALSE NEIGHBOUR: 'it returns false'. Refute it at one input. -/
def termAnyWrong : ChangeSpec := { name := "termAny", fn := fun _ => fun
  | [d1, d2, d3, d4] => { results := [.lit (.bool false)], args := [d1, d2, d3, d4] }
  | _ => none }
def TermAnyWrongFalsely : Prop := termAnyRow.holds Try.pinned (OpenSpec.ofChange termAnyWrong)

/-- 'stereobatelaw13.TermMade': WHATEVER THE INPUT: true; the input reads as it did. -/
def termMadeSpec : ChangeSpec := { name := "termMade", fn := fun _ => fun
  | [d1, d2, d3, d4, d5, d6] => { results := [.lit (.bool true)], args := [d1, d2, d3, d4, d5, d6] }
  | _ => none }
def termMadeRow : OpenClaim := { program := "ytokckghedpdfiaa", sum := "510034088975cb1c3efbb7f9af9f9782ffd188df1fc6261e300e1265b4d15f51", func := "stereobate/stereobatelaw13.TermMade", spec := "termMade", unfollowed := true, recurses := true, apart := false }
def TermMadeSaid : Prop := termMadeRow.holds Try.pinned (OpenSpec.ofChange termMadeSpec)

/-- ITS FALSE NEIGHBOUR: 'it returns false'. Refute it at one input. -/
def termMadeWrong : ChangeSpec := { name := "termMade", fn := fun _ => fun
  | [d1, d2, d3, d4, d5, d6] => { results := [.lit (.bool false)], args := [d1, d2, d3, d4, d5, d6] }
  | _ => none }
def TermMadeWrongFalsely : Prop := termMadeRow.holds Try.pinned (OpenSpec.ofChange termMadeWrong)

/-- 'stereobatelaw13.TermDeep': WHATEVER THE INPUT: true; the input reads as it did. -/
def termDeepSpec : ChangeSpec := { name := "termDeep", fn := fun _ => fun
  | [d1, d2] => { results := [.lit (.bool true)], args := [d1, d2] }
  | _ => none }
def termDeepRow : OpenClaim := { program := "ytokckghedpdfiaa", sum := "510034088975cb1c3efbb7f9af9f9782ffd188df1fc6261e300e1265b4d15f51", func := "stereobate/stereobatelaw13.TermDeep", spec := "termDeep", unfollowed := true, recurses := true, apart := false }
def TermDeepSaid : Prop := termDeepRow.holds Try.pinned (OpenSpec.ofChange termDeepSpec)

/-- ITS FALSE NEIGHBOUR: 'it returns false'. Refute it at one input. -/
def termDeepWrong : ChangeSpec := { name := "termDeep", fn := fun _ => fun
  | [d1, d2] => { results := [.lit (.bool false)], args := [d1, d2] }
  | _ => none }
def TermDeepWrongFalsely : Prop := termDeepRow.holds Try.pinned (OpenSpec.ofChange termDeepWrong)

/-- 'stereobatelaw13.TermBack': WHATEVER THE INPUT: true; the input reads as it did. -/
def termBackSpec : ChangeSpec := { name := "termBack", fn := fun _ => fun
  | [d1, d2, d3, d4, d5] => { results := [.lit (.bool true)], args := [d1, d2, d3, d4, d5] }
  | _ => none }
def termBackRow : OpenClaim := { program := "ytokckghedpdfiaa", sum := "510034088975cb1c3efbb7f9af9f9782ffd188df1fc6261e300e1265b4d15f51", func := "stereobate/stereobatelaw13.TermBack", spec := "termBack", unfollowed := true, recurses := true, apart := false }
def TermBackSaid : Prop := termBackRow.holds Try.pinned (OpenSpec.ofChange termBackSpec)

/-- ITS FALSE NEIGHBOUR: 'it returns false'. Refute it at one input. -/
def termBackWrong : ChangeSpec := { name := "termBack", fn := fun _ => fun
  | [d1, d2, d3, d4, d5] => { results := [.lit (.bool false)], args := [d1, d2, d3, d4, d5] }
  | _ => none }
def TermBackWrongFalsely : Prop := termBackRow.holds Try.pinned (OpenSpec.ofChange termBackWrong)

/-- 'stereobatelaw13.TermTwo': WHATEVER THE INPUT: true; the input reads as it did. -/
def termTwoSpec : ChangeSpec := { name := "termTwo", fn := fun _ => fun
  | [d1, d2, d3] => { results := [.lit (.bool true)], args := [d1, d2, d3] }
  | _ => none }
def termTwoRow : OpenClaim := { program := "ytokckghedpdfiaa", sum := "510034088975cb1c3efbb7f9af9f9782ffd188df1fc6261e300e1265b4d15f51", func := "stereobate/stereobatelaw13.TermTwo", spec := "termTwo", unfollowed := true, recurses := true, apart := false }
def TermTwoSaid : Prop := termTwoRow.holds Try.pinned (OpenSpec.ofChange termTwoSpec)

/-- ITS FALSE NEIGHBOUR: 'it returns false'. Refute it at one input. -/
def termTwoWrong : ChangeSpec := { name := "termTwo", fn := fun _ => fun
  | [d1, d2, d3] => { results := [.lit (.bool false)], args := [d1, d2, d3] }
  | _ => none }
def TermTwoWrongFalsely : Prop := termTwoRow.holds Try.pinned (OpenSpec.ofChange termTwoWrong)

/- THE SECOND FORM. 'bulk': how many values and letters a reading holds, each counted each time it is reached (what is shared counts as often as it is met; a slice's spare places count too). A statement '..UptoSaid' is the law's where the arguments, and the package variables that the reading takes, are together of bulk at most 1048576: NARROWER than '..Said'. Prove '..Said' where nothing that the law and all that it calls make is longer than what came in: it says more and counts as full. Else prove '..UptoSaid'. A law counts once. -/
mutual
def uptoBulk {H : Type} : DataW H → Nat
  | .lit (.string bytes) => bytes.length + 1
  | .lit _ => 1
  | .nil => 1
  | .ptr d => uptoBulk d + 1
  | .slice elems spare => uptoBulkAll elems + uptoBulkAll spare + 1
  | .agg parts => uptoBulkAll parts + 1
  | .iface _ d => uptoBulk d + 1
  | .map entries => uptoBulkEntries entries + 1
  | .held _ => 1
def uptoBulkAll {H : Type} : List (DataW H) → Nat
  | [] => 0
  | d :: r => uptoBulk d + uptoBulkAll r
def uptoBulkEntries {H : Type} : List (Lit × DataW H) → Nat
  | [] => 0
  | x :: r => uptoBulkEntry x + uptoBulkEntries r
def uptoBulkEntry {H : Type} : Lit × DataW H → Nat
  | (.string bytes, d) => bytes.length + uptoBulk d + 1
  | (_, d) => uptoBulk d + 1
 end
def uptoSmall : (H : Type) → List (DataW H) → Bool := fun _ ds => decide (uptoBulkAll ds ≤ 1048576)
def OpenSpec.upto (s : _root_.Go.ChangeSpec) : _root_.Go.OpenSpec := { _root_.Go.OpenSpec.ofChange s with cond := some uptoSmall }

/-- 'stereobatelaw13.TermAny', WHERE WHAT IT READS IS OF BULK AT MOST 1048576: true; the input reads as it did. -/
def termAnyUptoRow : OpenClaim := { program := "ytokckghedpdfiaa", sum := "510034088975cb1c3efbb7f9af9f9782ffd188df1fc6261e300e1265b4d15f51", func := "stereobate/stereobatelaw13.TermAny", spec := "termAny", unfollowed := true, recurses := true, loops := true, apart := false, narrowed := true }
def TermAnyUptoSaid : Prop := termAnyUptoRow.holds Try.pinned (OpenSpec.upto termAnySpec)

/-- 'stereobatelaw13.TermMade', WHERE WHAT IT READS IS OF BULK AT MOST 1048576: true; the input reads as it did. -/
def termMadeUptoRow : OpenClaim := { program := "ytokckghedpdfiaa", sum := "510034088975cb1c3efbb7f9af9f9782ffd188df1fc6261e300e1265b4d15f51", func := "stereobate/stereobatelaw13.TermMade", spec := "termMade", unfollowed := true, recurses := true, apart := false, narrowed := true }
def TermMadeUptoSaid : Prop := termMadeUptoRow.holds Try.pinned (OpenSpec.upto termMadeSpec)

/-- 'stereobatelaw13.TermDeep', WHERE WHAT IT READS IS OF BULK AT MOST 1048576: true; the input reads as it did. -/
def termDeepUptoRow : OpenClaim := { program := "ytokckghedpdfiaa", sum := "510034088975cb1c3efbb7f9af9f9782ffd188df1fc6261e300e1265b4d15f51", func := "stereobate/stereobatelaw13.TermDeep", spec := "termDeep", unfollowed := true, recurses := true, apart := false, narrowed := true }
def TermDeepUptoSaid : Prop := termDeepUptoRow.holds Try.pinned (OpenSpec.upto termDeepSpec)

/-- 'stereobatelaw13.TermBack', WHERE WHAT IT READS IS OF BULK AT MOST 1048576: true; the input reads as it did. -/
def termBackUptoRow : OpenClaim := { program := "ytokckghedpdfiaa", sum := "510034088975cb1c3efbb7f9af9f9782ffd188df1fc6261e300e1265b4d15f51", func := "stereobate/stereobatelaw13.TermBack", spec := "termBack", unfollowed := true, recurses := true, apart := false, narrowed := true }
def TermBackUptoSaid : Prop := termBackUptoRow.holds Try.pinned (OpenSpec.upto termBackSpec)

/-- 'stereobatelaw13.TermTwo', WHERE WHAT IT READS IS OF BULK AT MOST 1048576: true; the input reads as it did. -/
def termTwoUptoRow : OpenClaim := { program := "ytokckghedpdfiaa", sum := "510034088975cb1c3efbb7f9af9f9782ffd188df1fc6261e300e1265b4d15f51", func := "stereobate/stereobatelaw13.TermTwo", spec := "termTwo", unfollowed := true, recurses := true, apart := false, narrowed := true }
def TermTwoUptoSaid : Prop := termTwoUptoRow.holds Try.pinned (OpenSpec.upto termTwoSpec)

end Rows
end Go.Proofs.Ytokckghedpdfiaa
