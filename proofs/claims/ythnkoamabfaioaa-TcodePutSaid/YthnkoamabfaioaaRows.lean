/-
  NARROWER THAN 'FOR EVERY INPUT', by the rows' own cells (each row's printed sentence says how): TcodePut: loops.
  DERIVED. THE GIVEN ROWS OF THIS SEAT. 6 by the template 'for every input the law returns true; each argument reads behind the call as it read before'; 0 by the template 'total and deterministic' (their statements: YthnkoamabfaioaaTotals.lean).
  GIVEN WITH THE SEED: the statements are not yours to turn. If you find one false, say at which input.
  Laid BY PROGRAM, IN A SANDBOX (cutbox-rows.mjs): the forced cells as the released guide's own fill.sh prints them over the translation 810a4cccf03d0ab1… (all of the seat's roots in one cut). By AI agents, Wed Nov 11 2026. No macro, syntax, notation, axiom, sorry.
-/
import Derived.Test.YthnkoamabfaioaaChecked
import GoSem.Claim
import GoSem.ClaimJoined
import GoSem.ClaimMapViews
import Derived.JoinedTies
import Derived.KernelRfl
namespace Go.Proofs.Ythnkoamabfaioaa
/- THE CELL 'sum', in the pinned program and in every row, IS THE sha256 OF THE DUMP (.gsa) THAT YthnkoamabfaioaaProg.lean LOADS. Nothing in Lean hashes anything: it is a label: what it is worth is what the hold of that sum in a sandbox is worth. -/
noncomputable def Try.pinned : Pinned := { name := "ythnkoamabfaioaa", sum := "810a4cccf03d0ab17ad7edabcbe5012fbb3ba6ddf6e9e3038a23a01f7152787b", checked := Try.checked }
namespace Rows
def none {H : Type} : Left H := { results := [], args := [] }

/-- 'stereobatelaw14.TcodeGet': WHATEVER THE INPUT: true; the input reads as it did. -/
def tcodeGetSpec : ChangeSpec := { name := "tcodeGet", fn := fun _ => fun
  | [d1, d2] => { results := [.lit (.bool true)], args := [d1, d2] }
  | _ => none }
def tcodeGetRow : OpenClaim := { program := "ythnkoamabfaioaa", sum := "810a4cccf03d0ab17ad7edabcbe5012fbb3ba6ddf6e9e3038a23a01f7152787b", func := "stereobate/stereobatelaw14.TcodeGet", spec := "tcodeGet", unfollowed := true, recurses := true, apart := false }
def TcodeGetSaid : Prop := tcodeGetRow.holds Try.pinned (OpenSpec.ofChange tcodeGetSpec)

/-- ITS FALSE NEIGHBOUR: 'it returns false'. Refute it at one input. -/
def tcodeGetWrong : ChangeSpec := { name := "tcodeGet", fn := fun _ => fun
  | [d1, d2] => { results := [.lit (.bool false)], args := [d1, d2] }
  | _ => none }
def TcodeGetWrongFalsely : Prop := tcodeGetRow.holds Try.pinned (OpenSpec.ofChange tcodeGetWrong)

/-- 'stereobatelaw14.TcodeSmall': WHATEVER THE INPUT: true; the input reads as it did. -/
def tcodeSmallSpec : ChangeSpec := { name := "tcodeSmall", fn := fun _ => fun
  | [d] => { results := [.lit (.bool true)], args := [d] }
  | _ => none }
def tcodeSmallRow : OpenClaim := { program := "ythnkoamabfaioaa", sum := "810a4cccf03d0ab17ad7edabcbe5012fbb3ba6ddf6e9e3038a23a01f7152787b", func := "stereobate/stereobatelaw14.TcodeSmall", spec := "tcodeSmall", unfollowed := true, recurses := true, apart := false }
def TcodeSmallSaid : Prop := tcodeSmallRow.holds Try.pinned (OpenSpec.ofChange tcodeSmallSpec)

/-- ITS FALSE NEIGHBOUR: 'it returns false'. Refute it at one input. -/
def tcodeSmallWrong : ChangeSpec := { name := "tcodeSmall", fn := fun _ => fun
  | [d] => { results := [.lit (.bool false)], args := [d] }
  | _ => none }
def TcodeSmallWrongFalsely : Prop := tcodeSmallRow.holds Try.pinned (OpenSpec.ofChange tcodeSmallWrong)

/-- 'stereobatelaw14.TcodePut': WHATEVER THE INPUT: true; the input reads as it did. -/
def tcodePutSpec : ChangeSpec := { name := "tcodePut", fn := fun _ => fun
  | [d1, d2] => { results := [.lit (.bool true)], args := [d1, d2] }
  | _ => none }
def tcodePutRow : OpenClaim := { program := "ythnkoamabfaioaa", sum := "810a4cccf03d0ab17ad7edabcbe5012fbb3ba6ddf6e9e3038a23a01f7152787b", func := "stereobate/stereobatelaw14.TcodePut", spec := "tcodePut", unfollowed := true, recurses := true, loops := true, apart := false }
def TcodePutSaid : Prop := tcodePutRow.holds Try.pinned (OpenSpec.ofChange tcodePutSpec)

/-- ITS FALSE NEIGHBOUR: 'it returns false'. Refute it at one input. -/
def tcodePutWrong : ChangeSpec := { name := "tcodePut", fn := fun _ => fun
  | [d1, d2] => { results := [.lit (.bool false)], args := [d1, d2] }
  | _ => none }
def TcodePutWrongFalsely : Prop := tcodePutRow.holds Try.pinned (OpenSpec.ofChange tcodePutWrong)

/-- 'stereobatelaw14.TcodeDeep': WHATEVER THE INPUT: true; the input reads as it did. -/
def tcodeDeepSpec : ChangeSpec := { name := "tcodeDeep", fn := fun _ => fun
  | [d1, d2] => { results := [.lit (.bool true)], args := [d1, d2] }
  | _ => none }
def tcodeDeepRow : OpenClaim := { program := "ythnkoamabfaioaa", sum := "810a4cccf03d0ab17ad7edabcbe5012fbb3ba6ddf6e9e3038a23a01f7152787b", func := "stereobate/stereobatelaw14.TcodeDeep", spec := "tcodeDeep", unfollowed := true, recurses := true, apart := false }
def TcodeDeepSaid : Prop := tcodeDeepRow.holds Try.pinned (OpenSpec.ofChange tcodeDeepSpec)

/-- ITS FALSE NEIGHBOUR: 'it returns false'. Refute it at one input. -/
def tcodeDeepWrong : ChangeSpec := { name := "tcodeDeep", fn := fun _ => fun
  | [d1, d2] => { results := [.lit (.bool false)], args := [d1, d2] }
  | _ => none }
def TcodeDeepWrongFalsely : Prop := tcodeDeepRow.holds Try.pinned (OpenSpec.ofChange tcodeDeepWrong)

/-- 'stereobatelaw14.TcodeBack': WHATEVER THE INPUT: true; the input reads as it did. -/
def tcodeBackSpec : ChangeSpec := { name := "tcodeBack", fn := fun _ => fun
  | [d1, d2, d3] => { results := [.lit (.bool true)], args := [d1, d2, d3] }
  | _ => none }
def tcodeBackRow : OpenClaim := { program := "ythnkoamabfaioaa", sum := "810a4cccf03d0ab17ad7edabcbe5012fbb3ba6ddf6e9e3038a23a01f7152787b", func := "stereobate/stereobatelaw14.TcodeBack", spec := "tcodeBack", unfollowed := true, recurses := true, apart := false }
def TcodeBackSaid : Prop := tcodeBackRow.holds Try.pinned (OpenSpec.ofChange tcodeBackSpec)

/-- ITS FALSE NEIGHBOUR: 'it returns false'. Refute it at one input. -/
def tcodeBackWrong : ChangeSpec := { name := "tcodeBack", fn := fun _ => fun
  | [d1, d2, d3] => { results := [.lit (.bool false)], args := [d1, d2, d3] }
  | _ => none }
def TcodeBackWrongFalsely : Prop := tcodeBackRow.holds Try.pinned (OpenSpec.ofChange tcodeBackWrong)

/-- 'stereobatelaw14.TcodeOnce': WHATEVER THE INPUT: true; the input reads as it did. -/
def tcodeOnceSpec : ChangeSpec := { name := "tcodeOnce", fn := fun _ => fun
  | [d1, d2, d3] => { results := [.lit (.bool true)], args := [d1, d2, d3] }
  | _ => none }
def tcodeOnceRow : OpenClaim := { program := "ythnkoamabfaioaa", sum := "810a4cccf03d0ab17ad7edabcbe5012fbb3ba6ddf6e9e3038a23a01f7152787b", func := "stereobate/stereobatelaw14.TcodeOnce", spec := "tcodeOnce", unfollowed := true, recurses := true, apart := false }
def TcodeOnceSaid : Prop := tcodeOnceRow.holds Try.pinned (OpenSpec.ofChange tcodeOnceSpec)

/-- ITS FALSE NEIGHBOUR: 'it returns false'. Refute it at one input. -/
def tcodeOnceWrong : ChangeSpec := { name := "tcodeOnce", fn := fun _ => fun
  | [d1, d2, d3] => { results := [.lit (.bool false)], args := [d1, d2, d3] }
  | _ => none }
def TcodeOnceWrongFalsely : Prop := tcodeOnceRow.holds Try.pinned (OpenSpec.ofChange tcodeOnceWrong)

/- THE SECOND FORM. 'bulk': how many values and letters a reading holds, each counted each time it is reached (what is shared counts as often as it is met; a slice's spare places count too). A statement '..UptoSaid' is the law's where the arguments, and the package variables that the reading takes, are together of bulk at most 1048576: NARROWER than '..Said'. Prove '..Said' where nothing that the law and all that it calls make is longer than what came in: it says more and counts as full. Else prove '..UptoSaid'. A law counts once. -/
mutual
def uptoBulk {H : Type} : DataW H → Nat
  | .lit (.string bytes) => bytes.length + 1
  | .lit _ => 1
  | .nil => 1
  | .ptr d => uptoBulk d + 1
  | .slice elems spare => uptoBulkAll elems + uptoBulkAll spare + 1
  | .agg parts => uptoBulkAll parts + 1
  | .iface _ d => uptoBulk d + 1
  | .map entries => uptoBulkEntries entries + 1
  | .held _ => 1
def uptoBulkAll {H : Type} : List (DataW H) → Nat
  | [] => 0
  | d :: r => uptoBulk d + uptoBulkAll r
def uptoBulkEntries {H : Type} : List (Lit × DataW H) → Nat
  | [] => 0
  | x :: r => uptoBulkEntry x + uptoBulkEntries r
def uptoBulkEntry {H : Type} : Lit × DataW H → Nat
  | (.string bytes, d) => bytes.length + uptoBulk d + 1
  | (_, d) => uptoBulk d + 1
 end
def uptoSmall : (H : Type) → List (DataW H) → Bool := fun _ ds => decide (uptoBulkAll ds ≤ 1048576)
def OpenSpec.upto (s : _root_.Go.ChangeSpec) : _root_.Go.OpenSpec := { _root_.Go.OpenSpec.ofChange s with cond := some uptoSmall }

/-- 'stereobatelaw14.TcodeGet', WHERE WHAT IT READS IS OF BULK AT MOST 1048576: true; the input reads as it did. -/
def tcodeGetUptoRow : OpenClaim := { program := "ythnkoamabfaioaa", sum := "810a4cccf03d0ab17ad7edabcbe5012fbb3ba6ddf6e9e3038a23a01f7152787b", func := "stereobate/stereobatelaw14.TcodeGet", spec := "tcodeGet", unfollowed := true, recurses := true, apart := false, narrowed := true }
def TcodeGetUptoSaid : Prop := tcodeGetUptoRow.holds Try.pinned (OpenSpec.upto tcodeGetSpec)

/-- 'stereobatelaw14.TcodeSmall', WHERE WHAT IT READS IS OF BULK AT MOST 1048576: true; the input reads as it did. -/
def tcodeSmallUptoRow : OpenClaim := { program := "ythnkoamabfaioaa", sum := "810a4cccf03d0ab17ad7edabcbe5012fbb3ba6ddf6e9e3038a23a01f7152787b", func := "stereobate/stereobatelaw14.TcodeSmall", spec := "tcodeSmall", unfollowed := true, recurses := true, apart := false, narrowed := true }
def TcodeSmallUptoSaid : Prop := tcodeSmallUptoRow.holds Try.pinned (OpenSpec.upto tcodeSmallSpec)

/-- 'stereobatelaw14.TcodePut', WHERE WHAT IT READS IS OF BULK AT MOST 1048576: true; the input reads as it did. -/
def tcodePutUptoRow : OpenClaim := { program := "ythnkoamabfaioaa", sum := "810a4cccf03d0ab17ad7edabcbe5012fbb3ba6ddf6e9e3038a23a01f7152787b", func := "stereobate/stereobatelaw14.TcodePut", spec := "tcodePut", unfollowed := true, recurses := true, loops := true, apart := false, narrowed := true }
def TcodePutUptoSaid : Prop := tcodePutUptoRow.holds Try.pinned (OpenSpec.upto tcodePutSpec)

/-- 'stereobatelaw14.TcodeDeep', WHERE WHAT IT READS IS OF BULK AT MOST 1048576: true; the input reads as it did. -/
def tcodeDeepUptoRow : OpenClaim := { program := "ythnkoamabfaioaa", sum := "810a4cccf03d0ab17ad7edabcbe5012fbb3ba6ddf6e9e3038a23a01f7152787b", func := "stereobate/stereobatelaw14.TcodeDeep", spec := "tcodeDeep", unfollowed := true, recurses := true, apart := false, narrowed := true }
def TcodeDeepUptoSaid : Prop := tcodeDeepUptoRow.holds Try.pinned (OpenSpec.upto tcodeDeepSpec)

/-- 'stereobatelaw14.TcodeBack', WHERE WHAT IT READS IS OF BULK AT MOST 1048576: true; the input reads as it did. -/
def tcodeBackUptoRow : OpenClaim := { program := "ythnkoamabfaioaa", sum := "810a4cccf03d0ab17ad7edabcbe5012fbb3ba6ddf6e9e3038a23a01f7152787b", func := "stereobate/stereobatelaw14.TcodeBack", spec := "tcodeBack", unfollowed := true, recurses := true, apart := false, narrowed := true }
def TcodeBackUptoSaid : Prop := tcodeBackUptoRow.holds Try.pinned (OpenSpec.upto tcodeBackSpec)

/-- 'stereobatelaw14.TcodeOnce', WHERE WHAT IT READS IS OF BULK AT MOST 1048576: true; the input reads as it did. -/
def tcodeOnceUptoRow : OpenClaim := { program := "ythnkoamabfaioaa", sum := "810a4cccf03d0ab17ad7edabcbe5012fbb3ba6ddf6e9e3038a23a01f7152787b", func := "stereobate/stereobatelaw14.TcodeOnce", spec := "tcodeOnce", unfollowed := true, recurses := true, apart := false, narrowed := true }
def TcodeOnceUptoSaid : Prop := tcodeOnceUptoRow.holds Try.pinned (OpenSpec.upto tcodeOnceSpec)

end Rows
end Go.Proofs.Ythnkoamabfaioaa
