/-
  No cell of these rows narrows 'for every input' (looked for: loops, veiled, ifaces, maps, wideKeys, modest, calm, conditions, laid).
  DERIVED. THE GIVEN ROWS OF THIS SEAT. 5 by the template 'for every input the law returns true; each argument reads behind the call as it read before'; 0 by the template 'total and deterministic' (their statements: YtmbopdlmkbbbiaaTotals.lean).
  GIVEN WITH THE SEED: the statements are not yours to turn. If you find one false, say at which input.
  Laid BY PROGRAM, IN A SANDBOX (cutbox-rows.mjs): the forced cells as the released guide's own fill.sh prints them over the translation 858651db5c5af703… (all of the seat's roots in one cut). By AI agents, Wed Nov 11 2026. No macro, syntax, notation, axiom, sorry.
-/
import Derived.Test.YtmbopdlmkbbbiaaChecked
import GoSem.Claim
import GoSem.ClaimJoined
import GoSem.ClaimMapViews
import Derived.JoinedTies
import Derived.KernelRfl
namespace Go.Proofs.Ytmbopdlmkbbbiaa
/- THE CELL 'sum', in the pinned program and in every row, IS THE sha256 OF THE DUMP (.gsa) THAT YtmbopdlmkbbbiaaProg.lean LOADS. Nothing in Lean hashes anything: it is a label: what it is worth is what the hold of that sum in a sandbox is worth. -/
noncomputable def Try.pinned : Pinned := { name := "ytmbopdlmkbbbiaa", sum := "858651db5c5af703e96ebad201f0da5ecef7d536ba17694da25988920d4565d8", checked := Try.checked }
namespace Rows
def none {H : Type} : Left H := { results := [], args := [] }

/-- 'stereobatelaw04.ArenaMade': WHATEVER THE INPUT: true; the input reads as it did. -/
def arenaMadeSpec : ChangeSpec := { name := "arenaMade", fn := fun _ => fun
  | [d1, d2] => { results := [.lit (.bool true)], args := [d1, d2] }
  | _ => none }
def arenaMadeRow : OpenClaim := { program := "ytmbopdlmkbbbiaa", sum := "858651db5c5af703e96ebad201f0da5ecef7d536ba17694da25988920d4565d8", func := "stereobate/stereobatelaw04.ArenaMade", spec := "arenaMade", unfollowed := true, recurses := true, plainKeys := false, apart := false }
def ArenaMadeSaid : Prop := arenaMadeRow.holds Try.pinned (OpenSpec.ofChange arenaMadeSpec)

/-- ITS FALSE NEIGHBOUR: 'it returns false'. Refute it at one input. -/
def arenaMadeWrong : ChangeSpec := { name := "arenaMade", fn := fun _ => fun
  | [d1, d2] => { results := [.lit (.bool false)], args := [d1, d2] }
  | _ => none }
def ArenaMadeWrongFalsely : Prop := arenaMadeRow.holds Try.pinned (OpenSpec.ofChange arenaMadeWrong)

/-- 'stereobatelaw04.ArenaBack': WHATEVER THE INPUT: true; the input reads as it did. -/
def arenaBackSpec : ChangeSpec := { name := "arenaBack", fn := fun _ => fun
  | [d] => { results := [.lit (.bool true)], args := [d] }
  | _ => none }
def arenaBackRow : OpenClaim := { program := "ytmbopdlmkbbbiaa", sum := "858651db5c5af703e96ebad201f0da5ecef7d536ba17694da25988920d4565d8", func := "stereobate/stereobatelaw04.ArenaBack", spec := "arenaBack", unfollowed := true, recurses := true, plainKeys := false, apart := false }
def ArenaBackSaid : Prop := arenaBackRow.holds Try.pinned (OpenSpec.ofChange arenaBackSpec)

/-- ITS FALSE NEIGHBOUR: 'it returns false'. Refute it at one input. -/
def arenaBackWrong : ChangeSpec := { name := "arenaBack", fn := fun _ => fun
  | [d] => { results := [.lit (.bool false)], args := [d] }
  | _ => none }
def ArenaBackWrongFalsely : Prop := arenaBackRow.holds Try.pinned (OpenSpec.ofChange arenaBackWrong)

/-- 'stereobatelaw05.LsubMade': WHATEVER THE INPUT: true; the input reads as it did. -/
def lsubMadeSpec : ChangeSpec := { name := "lsubMade", fn := fun _ => fun
  | [d1, d2, d3] => { results := [.lit (.bool true)], args := [d1, d2, d3] }
  | _ => none }
def lsubMadeRow : OpenClaim := { program := "ytmbopdlmkbbbiaa", sum := "858651db5c5af703e96ebad201f0da5ecef7d536ba17694da25988920d4565d8", func := "stereobate/stereobatelaw05.LsubMade", spec := "lsubMade", unfollowed := true, recurses := true, plainKeys := false, apart := false }
def LsubMadeSaid : Prop := lsubMadeRow.holds Try.pinned (OpenSpec.ofChange lsubMadeSpec)

/-- ITS FALSE NEIGHBOUR: 'it returns false'. Refute it at one input. -/
def lsubMadeWrong : ChangeSpec := { name := "lsubMade", fn := fun _ => fun
  | [d1, d2, d3] => { results := [.lit (.bool false)], args := [d1, d2, d3] }
  | _ => none }
def LsubMadeWrongFalsely : Prop := lsubMadeRow.holds Try.pinned (OpenSpec.ofChange lsubMadeWrong)

/-- 'stereobatelaw05.LsubIs': WHATEVER THE INPUT: true; the input reads as it did. -/
def lsubIsSpec : ChangeSpec := { name := "lsubIs", fn := fun _ => fun
  | [d1, d2, d3, d4] => { results := [.lit (.bool true)], args := [d1, d2, d3, d4] }
  | _ => none }
def lsubIsRow : OpenClaim := { program := "ytmbopdlmkbbbiaa", sum := "858651db5c5af703e96ebad201f0da5ecef7d536ba17694da25988920d4565d8", func := "stereobate/stereobatelaw05.LsubIs", spec := "lsubIs", unfollowed := true, recurses := true, plainKeys := false, apart := false }
def LsubIsSaid : Prop := lsubIsRow.holds Try.pinned (OpenSpec.ofChange lsubIsSpec)

/-- ITS FALSE NEIGHBOUR: 'it returns false'. Refute it at one input. -/
def lsubIsWrong : ChangeSpec := { name := "lsubIs", fn := fun _ => fun
  | [d1, d2, d3, d4] => { results := [.lit (.bool false)], args := [d1, d2, d3, d4] }
  | _ => none }
def LsubIsWrongFalsely : Prop := lsubIsRow.holds Try.pinned (OpenSpec.ofChange lsubIsWrong)

/-- 'stereobatelaw05.LsubNamed': WHATEVER THE INPUT: true; the input reads as it did. -/
def lsubNamedSpec : ChangeSpec := { name := "lsubNamed", fn := fun _ => fun
  | [d1, d2] => { results := [.lit (.bool true)], args := [d1, d2] }
  | _ => none }
def lsubNamedRow : OpenClaim := { program := "ytmbopdlmkbbbiaa", sum := "858651db5c5af703e96ebad201f0da5ecef7d536ba17694da25988920d4565d8", func := "stereobate/stereobatelaw05.LsubNamed", spec := "lsubNamed", unfollowed := true, recurses := true, plainKeys := false, apart := false }
def LsubNamedSaid : Prop := lsubNamedRow.holds Try.pinned (OpenSpec.ofChange lsubNamedSpec)

/-- ITS FALSE NEIGHBOUR: 'it returns false'. Refute it at one input. -/
def lsubNamedWrong : ChangeSpec := { name := "lsubNamed", fn := fun _ => fun
  | [d1, d2] => { results := [.lit (.bool false)], args := [d1, d2] }
  | _ => none }
def LsubNamedWrongFalsely : Prop := lsubNamedRow.holds Try.pinned (OpenSpec.ofChange lsubNamedWrong)

/- THE SECOND FORM. 'bulk': how many values and letters a reading holds, each counted each time it is reached (what is shared counts as often as it is met; a slice's spare places count too). A statement '..UptoSaid' is the law's where the arguments, and the package variables that the reading takes, are together of bulk at most 1048576: NARROWER than '..Said'. Prove '..Said' where nothing that the law and all that it calls make is longer than what came in: it says more and counts as full. Else prove '..UptoSaid'. A law counts once. -/
mutual
def uptoBulk {H : Type} : DataW H → Nat
  | .lit (.string bytes) => bytes.length + 1
  | .lit _ => 1
  | .nil => 1
  | .ptr d => uptoBulk d + 1
  | .slice elems spare => uptoBulkAll elems + uptoBulkAll spare + 1
  | .agg parts => uptoBulkAll parts + 1
  | .iface _ d => uptoBulk d + 1
  | .map entries => uptoBulkEntries entries + 1
  | .held _ => 1
def uptoBulkAll {H : Type} : List (DataW H) → Nat
  | [] => 0
  | d :: r => uptoBulk d + uptoBulkAll r
def uptoBulkEntries {H : Type} : List (Lit × DataW H) → Nat
  | [] => 0
  | x :: r => uptoBulkEntry x + uptoBulkEntries r
def uptoBulkEntry {H : Type} : Lit × DataW H → Nat
  | (.string bytes, d) => bytes.length + uptoBulk d + 1
  | (_, d) => uptoBulk d + 1
 end
def uptoSmall : (H : Type) → List (DataW H) → Bool := fun _ ds => decide (uptoBulkAll ds ≤ 1048576)
def OpenSpec.upto (s : _root_.Go.ChangeSpec) : _root_.Go.OpenSpec := { _root_.Go.OpenSpec.ofChange s with cond := some uptoSmall }

/-- 'stereobatelaw04.ArenaMade', WHERE WHAT IT READS IS OF BULK AT MOST 1048576: true; the input reads as it did. -/
def arenaMadeUptoRow : OpenClaim := { program := "ytmbopdlmkbbbiaa", sum := "858651db5c5af703e96ebad201f0da5ecef7d536ba17694da25988920d4565d8", func := "stereobate/stereobatelaw04.ArenaMade", spec := "arenaMade", unfollowed := true, recurses := true, plainKeys := false, apart := false, narrowed := true }
def ArenaMadeUptoSaid : Prop := arenaMadeUptoRow.holds Try.pinned (OpenSpec.upto arenaMadeSpec)

/-- 'stereobatelaw04.ArenaBack', WHERE WHAT IT READS IS OF BULK AT MOST 1048576: true; the input reads as it did. -/
def arenaBackUptoRow : OpenClaim := { program := "ytmbopdlmkbbbiaa", sum := "858651db5c5af703e96ebad201f0da5ecef7d536ba17694da25988920d4565d8", func := "stereobate/stereobatelaw04.ArenaBack", spec := "arenaBack", unfollowed := true, recurses := true, plainKeys := false, apart := false, narrowed := true }
def ArenaBackUptoSaid : Prop := arenaBackUptoRow.holds Try.pinned (OpenSpec.upto arenaBackSpec)

/-- 'stereobatelaw05.LsubMade', WHERE WHAT IT READS IS OF BULK AT MOST 1048576: true; the input reads as it did. -/
def lsubMadeUptoRow : OpenClaim := { program := "ytmbopdlmkbbbiaa", sum := "858651db5c5af703e96ebad201f0da5ecef7d536ba17694da25988920d4565d8", func := "stereobate/stereobatelaw05.LsubMade", spec := "lsubMade", unfollowed := true, recurses := true, plainKeys := false, apart := false, narrowed := true }
def LsubMadeUptoSaid : Prop := lsubMadeUptoRow.holds Try.pinned (OpenSpec.upto lsubMadeSpec)

/-- 'stereobatelaw05.LsubIs', WHERE WHAT IT READS IS OF BULK AT MOST 1048576: true; the input reads as it did. -/
def lsubIsUptoRow : OpenClaim := { program := "ytmbopdlmkbbbiaa", sum := "858651db5c5af703e96ebad201f0da5ecef7d536ba17694da25988920d4565d8", func := "stereobate/stereobatelaw05.LsubIs", spec := "lsubIs", unfollowed := true, recurses := true, plainKeys := false, apart := false, narrowed := true }
def LsubIsUptoSaid : Prop := lsubIsUptoRow.holds Try.pinned (OpenSpec.upto lsubIsSpec)

/-- 'stereobatelaw05.LsubNamed', WHERE WHAT IT READS IS OF BULK AT MOST 1048576: true; the input reads as it did. -/
def lsubNamedUptoRow : OpenClaim := { program := "ytmbopdlmkbbbiaa", sum := "858651db5c5af703e96ebad201f0da5ecef7d536ba17694da25988920d4565d8", func := "stereobate/stereobatelaw05.LsubNamed", spec := "lsubNamed", unfollowed := true, recurses := true, plainKeys := false, apart := false, narrowed := true }
def LsubNamedUptoSaid : Prop := lsubNamedUptoRow.holds Try.pinned (OpenSpec.upto lsubNamedSpec)

end Rows
end Go.Proofs.Ytmbopdlmkbbbiaa
