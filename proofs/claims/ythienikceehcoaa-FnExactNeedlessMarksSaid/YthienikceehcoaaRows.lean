/-
  No cell of these rows narrows 'for every input' (looked for: loops, veiled, ifaces, maps, wideKeys, modest, calm, conditions, laid).
  DERIVED. THE GIVEN ROWS OF THIS SEAT. 4 by the template 'for every input the law returns true; each argument reads behind the call as it read before'; 0 by the template 'total and deterministic' (their statements: YthienikceehcoaaTotals.lean).
  GIVEN WITH THE SEED: the statements are not yours to turn. If you find one false, say at which input.
  Laid BY PROGRAM, IN A SANDBOX (cutbox-rows.mjs): the forced cells as the released guide's own fill.sh prints them over the translation 8958f202358372f9… (all of the seat's roots in one cut). By AI agents, Wed Nov 11 2026. No macro, syntax, notation, axiom, sorry.
-/
import Derived.Test.YthienikceehcoaaChecked
import GoSem.Claim
import GoSem.ClaimJoined
import GoSem.ClaimMapViews
import Derived.JoinedTies
import Derived.KernelRfl
namespace Go.Proofs.Ythienikceehcoaa
/- THE CELL 'sum', in the pinned program and in every row, IS THE sha256 OF THE DUMP (.gsa) THAT YthienikceehcoaaProg.lean LOADS. Nothing in Lean hashes anything: it is a label: what it is worth is what the hold of that sum in a sandbox is worth. -/
noncomputable def Try.pinned : Pinned := { name := "ythienikceehcoaa", sum := "8958f202358372f9ba14ee8462f1997fd7329416e018392c7ad9f28e6e6b447d", checked := Try.checked }
namespace Rows
def none {H : Type} : Left H := { results := [], args := [] }

/-- 'laws.FnExactLengthsOf': WHATEVER THE INPUT: true; the input reads as it did. -/
def fnExactLengthsOfSpec : ChangeSpec := { name := "fnExactLengthsOf", fn := fun _ => fun
  | [d] => { results := [.lit (.bool true)], args := [d] }
  | _ => none }
def fnExactLengthsOfRow : OpenClaim := { program := "ythienikceehcoaa", sum := "8958f202358372f9ba14ee8462f1997fd7329416e018392c7ad9f28e6e6b447d", func := "loop.example/g01305/laws.FnExactLengthsOf", spec := "fnExactLengthsOf", unfollowed := true, recurses := true, apart := false }
def FnExactLengthsOfSaid : Prop := fnExactLengthsOfRow.holds Try.pinned (OpenSpec.ofChange fnExactLengthsOfSpec)

/-- ITS FALSE NEIGHBOUR: 'it returns false'. Refute it at one input. -/
def fnExactLengthsOfWrong : ChangeSpec := { name := "fnExactLengthsOf", fn := fun _ => fun
  | [d] => { results := [.lit (.bool false)], args := [d] }
  | _ => none }
def FnExactLengthsOfWrongFalsely : Prop := fnExactLengthsOfRow.holds Try.pinned (OpenSpec.ofChange fnExactLengthsOfWrong)

/-- 'laws.FnExactAddMark': WHATEVER THE INPUT: true; the input reads as it did. -/
def fnExactAddMarkSpec : ChangeSpec := { name := "fnExactAddMark", fn := fun _ => fun
  | [d1, d2] => { results := [.lit (.bool true)], args := [d1, d2] }
  | _ => none }
def fnExactAddMarkRow : OpenClaim := { program := "ythienikceehcoaa", sum := "8958f202358372f9ba14ee8462f1997fd7329416e018392c7ad9f28e6e6b447d", func := "loop.example/g01305/laws.FnExactAddMark", spec := "fnExactAddMark", apart := false }
def FnExactAddMarkSaid : Prop := fnExactAddMarkRow.holds Try.pinned (OpenSpec.ofChange fnExactAddMarkSpec)

/-- ITS FALSE NEIGHBOUR: 'it returns false'. Refute it at one input. -/
def fnExactAddMarkWrong : ChangeSpec := { name := "fnExactAddMark", fn := fun _ => fun
  | [d1, d2] => { results := [.lit (.bool false)], args := [d1, d2] }
  | _ => none }
def FnExactAddMarkWrongFalsely : Prop := fnExactAddMarkRow.holds Try.pinned (OpenSpec.ofChange fnExactAddMarkWrong)

/-- 'laws.FnExactDropMark': WHATEVER THE INPUT: true; the input reads as it did. -/
def fnExactDropMarkSpec : ChangeSpec := { name := "fnExactDropMark", fn := fun _ => fun
  | [d1, d2] => { results := [.lit (.bool true)], args := [d1, d2] }
  | _ => none }
def fnExactDropMarkRow : OpenClaim := { program := "ythienikceehcoaa", sum := "8958f202358372f9ba14ee8462f1997fd7329416e018392c7ad9f28e6e6b447d", func := "loop.example/g01305/laws.FnExactDropMark", spec := "fnExactDropMark", apart := false }
def FnExactDropMarkSaid : Prop := fnExactDropMarkRow.holds Try.pinned (OpenSpec.ofChange fnExactDropMarkSpec)

/-- ITS FALSE NEIGHBOUR: 'it returns false'. Refute it at one input. -/
def fnExactDropMarkWrong : ChangeSpec := { name := "fnExactDropMark", fn := fun _ => fun
  | [d1, d2] => { results := [.lit (.bool false)], args := [d1, d2] }
  | _ => none }
def FnExactDropMarkWrongFalsely : Prop := fnExactDropMarkRow.holds Try.pinned (OpenSpec.ofChange fnExactDropMarkWrong)

/-- 'laws.FnExactNeedlessMarks': WHATEVER THE INPUT: true; the input reads as it did. -/
def fnExactNeedlessMarksSpec : ChangeSpec := { name := "fnExactNeedlessMarks", fn := fun _ => fun
  | [d] => { results := [.lit (.bool true)], args := [d] }
  | _ => none }
def fnExactNeedlessMarksRow : OpenClaim := { program := "ythienikceehcoaa", sum := "8958f202358372f9ba14ee8462f1997fd7329416e018392c7ad9f28e6e6b447d", func := "loop.example/g01305/laws.FnExactNeedlessMarks", spec := "fnExactNeedlessMarks", unfollowed := true, recurses := true, apart := false }
def FnExactNeedlessMarksSaid : Prop := fnExactNeedlessMarksRow.holds Try.pinned (OpenSpec.ofChange fnExactNeedlessMarksSpec)

/-- ITS FALSE NEIGHBOUR: 'it returns false'. Refute it at one input. -/
def fnExactNeedlessMarksWrong : ChangeSpec := { name := "fnExactNeedlessMarks", fn := fun _ => fun
  | [d] => { results := [.lit (.bool false)], args := [d] }
  | _ => none }
def FnExactNeedlessMarksWrongFalsely : Prop := fnExactNeedlessMarksRow.holds Try.pinned (OpenSpec.ofChange fnExactNeedlessMarksWrong)

/- THE SECOND FORM. 'bulk': how many values and letters a reading holds, each counted each time it is reached (what is shared counts as often as it is met; a slice's spare places count too). A statement '..UptoSaid' is the law's where the arguments, and the package variables that the reading takes, are together of bulk at most 1048576: NARROWER than '..Said'. Prove '..Said' where nothing that the law and all that it calls make is longer than what came in: it says more and counts as full. Else prove '..UptoSaid'. A law counts once. -/
mutual
def uptoBulk {H : Type} : DataW H → Nat
  | .lit (.string bytes) => bytes.length + 1
  | .lit _ => 1
  | .nil => 1
  | .ptr d => uptoBulk d + 1
  | .slice elems spare => uptoBulkAll elems + uptoBulkAll spare + 1
  | .agg parts => uptoBulkAll parts + 1
  | .iface _ d => uptoBulk d + 1
  | .map entries => uptoBulkEntries entries + 1
  | .held _ => 1
def uptoBulkAll {H : Type} : List (DataW H) → Nat
  | [] => 0
  | d :: r => uptoBulk d + uptoBulkAll r
def uptoBulkEntries {H : Type} : List (Lit × DataW H) → Nat
  | [] => 0
  | x :: r => uptoBulkEntry x + uptoBulkEntries r
def uptoBulkEntry {H : Type} : Lit × DataW H → Nat
  | (.string bytes, d) => bytes.length + uptoBulk d + 1
  | (_, d) => uptoBulk d + 1
 end
def uptoSmall : (H : Type) → List (DataW H) → Bool := fun _ ds => decide (uptoBulkAll ds ≤ 1048576)
def OpenSpec.upto (s : _root_.Go.ChangeSpec) : _root_.Go.OpenSpec := { _root_.Go.OpenSpec.ofChange s with cond := some uptoSmall }

/-- 'laws.FnExactLengthsOf', WHERE WHAT IT READS IS OF BULK AT MOST 1048576: true; the input reads as it did. -/
def fnExactLengthsOfUptoRow : OpenClaim := { program := "ythienikceehcoaa", sum := "8958f202358372f9ba14ee8462f1997fd7329416e018392c7ad9f28e6e6b447d", func := "loop.example/g01305/laws.FnExactLengthsOf", spec := "fnExactLengthsOf", unfollowed := true, recurses := true, apart := false, narrowed := true }
def FnExactLengthsOfUptoSaid : Prop := fnExactLengthsOfUptoRow.holds Try.pinned (OpenSpec.upto fnExactLengthsOfSpec)

/-- 'laws.FnExactAddMark', WHERE WHAT IT READS IS OF BULK AT MOST 1048576: true; the input reads as it did. -/
def fnExactAddMarkUptoRow : OpenClaim := { program := "ythienikceehcoaa", sum := "8958f202358372f9ba14ee8462f1997fd7329416e018392c7ad9f28e6e6b447d", func := "loop.example/g01305/laws.FnExactAddMark", spec := "fnExactAddMark", apart := false, narrowed := true }
def FnExactAddMarkUptoSaid : Prop := fnExactAddMarkUptoRow.holds Try.pinned (OpenSpec.upto fnExactAddMarkSpec)

/-- 'laws.FnExactDropMark', WHERE WHAT IT READS IS OF BULK AT MOST 1048576: true; the input reads as it did. -/
def fnExactDropMarkUptoRow : OpenClaim := { program := "ythienikceehcoaa", sum := "8958f202358372f9ba14ee8462f1997fd7329416e018392c7ad9f28e6e6b447d", func := "loop.example/g01305/laws.FnExactDropMark", spec := "fnExactDropMark", apart := false, narrowed := true }
def FnExactDropMarkUptoSaid : Prop := fnExactDropMarkUptoRow.holds Try.pinned (OpenSpec.upto fnExactDropMarkSpec)

/-- 'laws.FnExactNeedlessMarks', WHERE WHAT IT READS IS OF BULK AT MOST 1048576: true; the input reads as it did. -/
def fnExactNeedlessMarksUptoRow : OpenClaim := { program := "ythienikceehcoaa", sum := "8958f202358372f9ba14ee8462f1997fd7329416e018392c7ad9f28e6e6b447d", func := "loop.example/g01305/laws.FnExactNeedlessMarks", spec := "fnExactNeedlessMarks", unfollowed := true, recurses := true, apart := false, narrowed := true }
def FnExactNeedlessMarksUptoSaid : Prop := fnExactNeedlessMarksUptoRow.holds Try.pinned (OpenSpec.upto fnExactNeedlessMarksSpec)

end Rows
end Go.Proofs.Ythienikceehcoaa
