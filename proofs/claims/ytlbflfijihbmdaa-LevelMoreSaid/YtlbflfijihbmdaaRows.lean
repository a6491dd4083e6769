/-
  NARROWER THAN 'FOR EVERY INPUT', by the rows' own cells (each row's printed sentence says how): LevelAny: loops.
  DERIVED. THE GIVEN ROWS OF THIS SEAT. 4 by the template 'for every input the law returns true; each argument reads behind the call as it read before'; 0 by the template 'total and deterministic' (their statements: YtlbflfijihbmdaaTotals.lean).
  GIVEN WITH THE SEED: the statements are not yours to turn. If you find one false, say at which input.
  Laid BY PROGRAM, IN A SANDBOX (cutbox-rows.mjs): the forced cells as the released guide's own fill.sh prints them over the translation 35708c93039579c4… (all of the seat's roots in one cut). By AI agents, Wed Nov 11 2026. No macro, syntax, notation, axiom, sorry.
-/
import Derived.Test.YtlbflfijihbmdaaChecked
import GoSem.Claim
import GoSem.ClaimJoined
import GoSem.ClaimMapViews
import Derived.JoinedTies
import Derived.KernelRfl
namespace Go.Proofs.Ytlbflfijihbmdaa
/- THE CELL 'sum', in the pinned program and in every row, IS THE sha256 OF THE DUMP (.gsa) THAT YtlbflfijihbmdaaProg.lean LOADS. Nothing in Lean hashes anything: it is a label: what it is worth is what the hold of that sum in a sandbox is worth. -/
noncomputable def Try.pinned : Pinned := { name := "ytlbflfijihbmdaa", sum := "35708c93039579c43ed233fe1e35ff907fc070f41f4941735fbb74682bd53276", checked := Try.checked }
namespace Rows
def none {H : Type} : Left H := { results := [], args := [] }

/-- 'stereobatelaw02.LevelAny': WHATEVER THE INPUT: true; the input reads as it did. -/
def levelAnySpec : ChangeSpec := { name := "levelAny", fn := fun _ => fun
  | [d1, d2, d3, d4, d5] => { results := [.lit (.bool true)], args := [d1, d2, d3, d4, d5] }
  | _ => none }
def levelAnyRow : OpenClaim := { program := "ytlbflfijihbmdaa", sum := "35708c93039579c43ed233fe1e35ff907fc070f41f4941735fbb74682bd53276", func := "stereobate/stereobatelaw02.LevelAny", spec := "levelAny", unfollowed := true, recurses := true, loops := true, apart := false }
def LevelAnySaid : Prop := levelAnyRow.holds Try.pinned (OpenSpec.ofChange levelAnySpec)

/-- ITS FALSE NEIGHBOUR: 'it returns false'. Refute it at one input. -/
def levelAnyWrong : ChangeSpec := { name := "levelAny", fn := fun _ => fun
  | [d1, d2, d3, d4, d5] => { results := [.lit (.bool false)], args := [d1, d2, d3, d4, d5] }
  | _ => none }
def LevelAnyWrongFalsely : Prop := levelAnyRow.holds Try.pinned (OpenSpec.ofChange levelAnyWrong)

/-- 'stereobatelaw02.LevelMade': WHATEVER THE INPUT: true; the input reads as it did. -/
def levelMadeSpec : ChangeSpec := { name := "levelMade", fn := fun _ => fun
  | [d1, d2, d3, d4, d5] => { results := [.lit (.bool true)], args := [d1, d2, d3, d4, d5] }
  | _ => none }
def levelMadeRow : OpenClaim := { program := "ytlbflfijihbmdaa", sum := "35708c93039579c43ed233fe1e35ff907fc070f41f4941735fbb74682bd53276", func := "stereobate/stereobatelaw02.LevelMade", spec := "levelMade", unfollowed := true, recurses := true, apart := false }
def LevelMadeSaid : Prop := levelMadeRow.holds Try.pinned (OpenSpec.ofChange levelMadeSpec)

/-- ITS FALSE NEIGHBOUR: 'it returns false'. Refute it at one input. -/
def levelMadeWrong : ChangeSpec := { name := "levelMade", fn := fun _ => fun
  | [d1, d2, d3, d4, d5] => { results := [.lit (.bool false)], args := [d1, d2, d3, d4, d5] }
  | _ => none }
def LevelMadeWrongFalsely : Prop := levelMadeRow.holds Try.pinned (OpenSpec.ofChange levelMadeWrong)

/-- 'stereobatelaw02.LevelDeep': WHATEVER THE INPUT: true; the input reads as it did. -/
def levelDeepSpec : ChangeSpec := { name := "levelDeep", fn := fun _ => fun
  | [d1, d2, d3] => { results := [.lit (.bool true)], args := [d1, d2, d3] }
  | _ => none }
def levelDeepRow : OpenClaim := { program := "ytlbflfijihbmdaa", sum := "35708c93039579c43ed233fe1e35ff907fc070f41f4941735fbb74682bd53276", func := "stereobate/stereobatelaw02.LevelDeep", spec := "levelDeep", unfollowed := true, recurses := true, apart := false }
def LevelDeepSaid : Prop := levelDeepRow.holds Try.pinned (OpenSpec.ofChange levelDeepSpec)

/-- ITS FALSE NEIGHBOUR: 'it returns false'. Refute it at one input. -/
def levelDeepWrong : ChangeSpec := { name := "levelDeep", fn := fun _ => fun
  | [d1, d2, d3] => { results := [.lit (.bool false)], args := [d1, d2, d3] }
  | _ => none }
def LevelDeepWrongFalsely : Prop := levelDeepRow.holds Try.pinned (OpenSpec.ofChange levelDeepWrong)

/-- 'stereobatelaw02.LevelMore': WHATEVER THE INPUT: true; the input reads as it did. -/
def levelMoreSpec : ChangeSpec := { name := "levelMore", fn := fun _ => fun
  | [d1, d2, d3, d4] => { results := [.lit (.bool true)], args := [d1, d2, d3, d4] }
  | _ => none }
def levelMoreRow : OpenClaim := { program := "ytlbflfijihbmdaa", sum := "35708c93039579c43ed233fe1e35ff907fc070f41f4941735fbb74682bd53276", func := "stereobate/stereobatelaw02.LevelMore", spec := "levelMore", unfollowed := true, recurses := true, apart := false }
def LevelMoreSaid : Prop := levelMoreRow.holds Try.pinned (OpenSpec.ofChange levelMoreSpec)

/-- ITS FALSE NEIGHBOUR: 'it returns false'. Refute it at one input. -/
def levelMoreWrong : ChangeSpec := { name := "levelMore", fn := fun _ => fun
  | [d1, d2, d3, d4] => { results := [.lit (.bool false)], args := [d1, d2, d3, d4] }
  | _ => none }
def LevelMoreWrongFalsely : Prop := levelMoreRow.holds Try.pinned (OpenSpec.ofChange levelMoreWrong)

/- THE SECOND FORM. 'bulk': how many values and letters a reading holds, each counted each time it is reached (what is shared counts as often as it is met; a slice's spare places count too). A statement '..UptoSaid' is the law's where the arguments, and the package variables that the reading takes, are together of bulk at most 1048576: NARROWER than '..Said'. Prove '..Said' where nothing that the law and all that it calls make is longer than what came in: it says more and counts as full. Else prove '..UptoSaid'. A law counts once. -/
mutual
def uptoBulk {H : Type} : DataW H → Nat
  | .lit (.string bytes) => bytes.length + 1
  | .lit _ => 1
  | .nil => 1
  | .ptr d => uptoBulk d + 1
  | .slice elems spare => uptoBulkAll elems + uptoBulkAll spare + 1
  | .agg parts => uptoBulkAll parts + 1
  | .iface _ d => uptoBulk d + 1
  | .map entries => uptoBulkEntries entries + 1
  | .held _ => 1
def uptoBulkAll {H : Type} : List (DataW H) → Nat
  | [] => 0
  | d :: r => uptoBulk d + uptoBulkAll r
def uptoBulkEntries {H : Type} : List (Lit × DataW H) → Nat
  | [] => 0
  | x :: r => uptoBulkEntry x + uptoBulkEntries r
def uptoBulkEntry {H : Type} : Lit × DataW H → Nat
  | (.string bytes, d) => bytes.length + uptoBulk d + 1
  | (_, d) => uptoBulk d + 1
 end
def uptoSmall : (H : Type) → List (DataW H) → Bool := fun _ ds => decide (uptoBulkAll ds ≤ 1048576)
def OpenSpec.upto (s : _root_.Go.ChangeSpec) : _root_.Go.OpenSpec := { _root_.Go.OpenSpec.ofChange s with cond := some uptoSmall }

/-- 'stereobatelaw02.LevelAny', WHERE WHAT IT READS IS OF BULK AT MOST 1048576: true; the input reads as it did. -/
def levelAnyUptoRow : OpenClaim := { program := "ytlbflfijihbmdaa", sum := "35708c93039579c43ed233fe1e35ff907fc070f41f4941735fbb74682bd53276", func := "stereobate/stereobatelaw02.LevelAny", spec := "levelAny", unfollowed := true, recurses := true, loops := true, apart := false, narrowed := true }
def LevelAnyUptoSaid : Prop := levelAnyUptoRow.holds Try.pinned (OpenSpec.upto levelAnySpec)

/-- 'stereobatelaw02.LevelMade', WHERE WHAT IT READS IS OF BULK AT MOST 1048576: true; the input reads as it did. -/
def levelMadeUptoRow : OpenClaim := { program := "ytlbflfijihbmdaa", sum := "35708c93039579c43ed233fe1e35ff907fc070f41f4941735fbb74682bd53276", func := "stereobate/stereobatelaw02.LevelMade", spec := "levelMade", unfollowed := true, recurses := true, apart := false, narrowed := true }
def LevelMadeUptoSaid : Prop := levelMadeUptoRow.holds Try.pinned (OpenSpec.upto levelMadeSpec)

/-- 'stereobatelaw02.LevelDeep', WHERE WHAT IT READS IS OF BULK AT MOST 1048576: true; the input reads as it did. -/
def levelDeepUptoRow : OpenClaim := { program := "ytlbflfijihbmdaa", sum := "35708c93039579c43ed233fe1e35ff907fc070f41f4941735fbb74682bd53276", func := "stereobate/stereobatelaw02.LevelDeep", spec := "levelDeep", unfollowed := true, recurses := true, apart := false, narrowed := true }
def LevelDeepUptoSaid : Prop := levelDeepUptoRow.holds Try.pinned (OpenSpec.upto levelDeepSpec)

/-- 'stereobatelaw02.LevelMore', WHERE WHAT IT READS IS OF BULK AT MOST 1048576: true; the input reads as it did. -/
def levelMoreUptoRow : OpenClaim := { program := "ytlbflfijihbmdaa", sum := "35708c93039579c43ed233fe1e35ff907fc070f41f4941735fbb74682bd53276", func := "stereobate/stereobatelaw02.LevelMore", spec := "levelMore", unfollowed := true, recurses := true, apart := false, narrowed := true }
def LevelMoreUptoSaid : Prop := levelMoreUptoRow.holds Try.pinned (OpenSpec.upto levelMoreSpec)

end Rows
end Go.Proofs.Ytlbflfijihbmdaa
