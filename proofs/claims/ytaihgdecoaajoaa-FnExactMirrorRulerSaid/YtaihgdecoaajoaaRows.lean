/-
  No cell of these rows narrows 'for every input' (looked for: loops, veiled, ifaces, maps, wideKeys, modest, calm, conditions, laid).
  DERIVED. THE GIVEN ROWS OF THIS SEAT. 17 by the template 'for every input the law returns true; each argument reads behind the call as it read before'; 0 by the template 'total and deterministic' (their statements: YtaihgdecoaajoaaTotals.lean).
  GIVEN WITH THE SEED: the statements are not yours to turn. If you find one false, say at which input.
  Laid BY PROGRAM, IN A SANDBOX (cutbox-rows.mjs): the forced cells as the released guide's own fill.sh prints them over the translation 2802fe23bd895c5c… (all of the seat's roots in one cut). By AI agents, Wed Nov 11 2026. No macro, syntax, notation, axiom, sorry.
-/
import Derived.Test.YtaihgdecoaajoaaChecked
import GoSem.Claim
import GoSem.ClaimJoined
import GoSem.ClaimMapViews
import Derived.JoinedTies
import Derived.KernelRfl
namespace Go.Proofs.Ytaihgdecoaajoaa
/- THE CELL 'sum', in the pinned program and in every row, IS THE sha256 OF THE DUMP (.gsa) THAT YtaihgdecoaajoaaProg.lean LOADS. Nothing in Lean hashes anything: it is a label: what it is worth is what the hold of that sum in a sandbox is worth. -/
noncomputable def Try.pinned : Pinned := { name := "ytaihgdecoaajoaa", sum := "2802fe23bd895c5c877fd5a932bb0d8aa0f0abcc974f579fa0751feef1057ce3", checked := Try.checked }
namespace Rows
def none {H : Type} : Left H := { results := [], args := [] }

/-- 'laws.FnExactIsRuler': WHATEVER THE INPUT: true; the input reads as it did. -/
def fnExactIsRulerSpec : ChangeSpec := { name := "fnExactIsRuler", fn := fun _ => fun
  | [d] => { results := [.lit (.bool true)], args := [d] }
  | _ => none }
def fnExactIsRulerRow : OpenClaim := { program := "ytaihgdecoaajoaa", sum := "2802fe23bd895c5c877fd5a932bb0d8aa0f0abcc974f579fa0751feef1057ce3", func := "loop.example/g01305/laws.FnExactIsRuler", spec := "fnExactIsRuler", apart := false }
def FnExactIsRulerSaid : Prop := fnExactIsRulerRow.holds Try.pinned (OpenSpec.ofChange fnExactIsRulerSpec)

/-- ITS FALSE NEIGHBOUR: 'it returns false'. Refute it at one input. -/
def fnExactIsRulerWrong : ChangeSpec := { name := "fnExactIsRuler", fn := fun _ => fun
  | [d] => { results := [.lit (.bool false)], args := [d] }
  | _ => none }
def FnExactIsRulerWrongFalsely : Prop := fnExactIsRulerRow.holds Try.pinned (OpenSpec.ofChange fnExactIsRulerWrong)

/-- 'laws.FnExactLengthsOf': WHATEVER THE INPUT: true; the input reads as it did. -/
def fnExactLengthsOfSpec : ChangeSpec := { name := "fnExactLengthsOf", fn := fun _ => fun
  | [d] => { results := [.lit (.bool true)], args := [d] }
  | _ => none }
def fnExactLengthsOfRow : OpenClaim := { program := "ytaihgdecoaajoaa", sum := "2802fe23bd895c5c877fd5a932bb0d8aa0f0abcc974f579fa0751feef1057ce3", func := "loop.example/g01305/laws.FnExactLengthsOf", spec := "fnExactLengthsOf", unfollowed := true, recurses := true, apart := false }
def FnExactLengthsOfSaid : Prop := fnExactLengthsOfRow.holds Try.pinned (OpenSpec.ofChange fnExactLengthsOfSpec)

/-- ITS FALSE NEIGHBOUR: 'it returns false'. Refute it at one input. -/
def fnExactLengthsOfWrong : ChangeSpec := { name := "fnExactLengthsOf", fn := fun _ => fun
  | [d] => { results := [.lit (.bool false)], args := [d] }
  | _ => none }
def FnExactLengthsOfWrongFalsely : Prop := fnExactLengthsOfRow.holds Try.pinned (OpenSpec.ofChange fnExactLengthsOfWrong)

/-- 'laws.FnExactWaysToMeasure': WHATEVER THE INPUT: true; the input reads as it did. -/
def fnExactWaysToMeasureSpec : ChangeSpec := { name := "fnExactWaysToMeasure", fn := fun _ => fun
  | [d1, d2] => { results := [.lit (.bool true)], args := [d1, d2] }
  | _ => none }
def fnExactWaysToMeasureRow : OpenClaim := { program := "ytaihgdecoaajoaa", sum := "2802fe23bd895c5c877fd5a932bb0d8aa0f0abcc974f579fa0751feef1057ce3", func := "loop.example/g01305/laws.FnExactWaysToMeasure", spec := "fnExactWaysToMeasure", unfollowed := true, recurses := true, apart := false }
def FnExactWaysToMeasureSaid : Prop := fnExactWaysToMeasureRow.holds Try.pinned (OpenSpec.ofChange fnExactWaysToMeasureSpec)

/-- ITS FALSE NEIGHBOUR: 'it returns false'. Refute it at one input. -/
def fnExactWaysToMeasureWrong : ChangeSpec := { name := "fnExactWaysToMeasure", fn := fun _ => fun
  | [d1, d2] => { results := [.lit (.bool false)], args := [d1, d2] }
  | _ => none }
def FnExactWaysToMeasureWrongFalsely : Prop := fnExactWaysToMeasureRow.holds Try.pinned (OpenSpec.ofChange fnExactWaysToMeasureWrong)

/-- 'laws.FnExactMissingLengths': WHATEVER THE INPUT: true; the input reads as it did. -/
def fnExactMissingLengthsSpec : ChangeSpec := { name := "fnExactMissingLengths", fn := fun _ => fun
  | [d] => { results := [.lit (.bool true)], args := [d] }
  | _ => none }
def fnExactMissingLengthsRow : OpenClaim := { program := "ytaihgdecoaajoaa", sum := "2802fe23bd895c5c877fd5a932bb0d8aa0f0abcc974f579fa0751feef1057ce3", func := "loop.example/g01305/laws.FnExactMissingLengths", spec := "fnExactMissingLengths", unfollowed := true, recurses := true, apart := false }
def FnExactMissingLengthsSaid : Prop := fnExactMissingLengthsRow.holds Try.pinned (OpenSpec.ofChange fnExactMissingLengthsSpec)

/-- ITS FALSE NEIGHBOUR: 'it returns false'. Refute it at one input. -/
def fnExactMissingLengthsWrong : ChangeSpec := { name := "fnExactMissingLengths", fn := fun _ => fun
  | [d] => { results := [.lit (.bool false)], args := [d] }
  | _ => none }
def FnExactMissingLengthsWrongFalsely : Prop := fnExactMissingLengthsRow.holds Try.pinned (OpenSpec.ofChange fnExactMissingLengthsWrong)

/-- 'laws.FnExactIsComplete': WHATEVER THE INPUT: true; the input reads as it did. -/
def fnExactIsCompleteSpec : ChangeSpec := { name := "fnExactIsComplete", fn := fun _ => fun
  | [d] => { results := [.lit (.bool true)], args := [d] }
  | _ => none }
def fnExactIsCompleteRow : OpenClaim := { program := "ytaihgdecoaajoaa", sum := "2802fe23bd895c5c877fd5a932bb0d8aa0f0abcc974f579fa0751feef1057ce3", func := "loop.example/g01305/laws.FnExactIsComplete", spec := "fnExactIsComplete", unfollowed := true, recurses := true, apart := false }
def FnExactIsCompleteSaid : Prop := fnExactIsCompleteRow.holds Try.pinned (OpenSpec.ofChange fnExactIsCompleteSpec)

/-- ITS FALSE NEIGHBOUR: 'it returns false'. Refute it at one input. -/
def fnExactIsCompleteWrong : ChangeSpec := { name := "fnExactIsComplete", fn := fun _ => fun
  | [d] => { results := [.lit (.bool false)], args := [d] }
  | _ => none }
def FnExactIsCompleteWrongFalsely : Prop := fnExactIsCompleteRow.holds Try.pinned (OpenSpec.ofChange fnExactIsCompleteWrong)

/-- 'laws.FnExactIsSparse': WHATEVER THE INPUT: true; the input reads as it did. -/
def fnExactIsSparseSpec : ChangeSpec := { name := "fnExactIsSparse", fn := fun _ => fun
  | [d] => { results := [.lit (.bool true)], args := [d] }
  | _ => none }
def fnExactIsSparseRow : OpenClaim := { program := "ytaihgdecoaajoaa", sum := "2802fe23bd895c5c877fd5a932bb0d8aa0f0abcc974f579fa0751feef1057ce3", func := "loop.example/g01305/laws.FnExactIsSparse", spec := "fnExactIsSparse", unfollowed := true, recurses := true, apart := false }
def FnExactIsSparseSaid : Prop := fnExactIsSparseRow.holds Try.pinned (OpenSpec.ofChange fnExactIsSparseSpec)

/-- ITS FALSE NEIGHBOUR: 'it returns false'. Refute it at one input. -/
def fnExactIsSparseWrong : ChangeSpec := { name := "fnExactIsSparse", fn := fun _ => fun
  | [d] => { results := [.lit (.bool false)], args := [d] }
  | _ => none }
def FnExactIsSparseWrongFalsely : Prop := fnExactIsSparseRow.holds Try.pinned (OpenSpec.ofChange fnExactIsSparseWrong)

/-- 'laws.FnExactMirrorRuler': WHATEVER THE INPUT: true; the input reads as it did. -/
def fnExactMirrorRulerSpec : ChangeSpec := { name := "fnExactMirrorRuler", fn := fun _ => fun
  | [d] => { results := [.lit (.bool true)], args := [d] }
  | _ => none }
def fnExactMirrorRulerRow : OpenClaim := { program := "ytaihgdecoaajoaa", sum := "2802fe23bd895c5c877fd5a932bb0d8aa0f0abcc974f579fa0751feef1057ce3", func := "loop.example/g01305/laws.FnExactMirrorRuler", spec := "fnExactMirrorRuler", unfollowed := true, recurses := true, apart := false }
def FnExactMirrorRulerSaid : Prop := fnExactMirrorRulerRow.holds Try.pinned (OpenSpec.ofChange fnExactMirrorRulerSpec)

/-- ITS FALSE NEIGHBOUR: 'it returns false'. Refute it at one input. -/
def fnExactMirrorRulerWrong : ChangeSpec := { name := "fnExactMirrorRuler", fn := fun _ => fun
  | [d] => { results := [.lit (.bool false)], args := [d] }
  | _ => none }
def FnExactMirrorRulerWrongFalsely : Prop := fnExactMirrorRulerRow.holds Try.pinned (OpenSpec.ofChange fnExactMirrorRulerWrong)

/-- 'laws.FnExactAddMark': WHATEVER THE INPUT: true; the input reads as it did. -/
def fnExactAddMarkSpec : ChangeSpec := { name := "fnExactAddMark", fn := fun _ => fun
  | [d1, d2] => { results := [.lit (.bool true)], args := [d1, d2] }
  | _ => none }
def fnExactAddMarkRow : OpenClaim := { program := "ytaihgdecoaajoaa", sum := "2802fe23bd895c5c877fd5a932bb0d8aa0f0abcc974f579fa0751feef1057ce3", func := "loop.example/g01305/laws.FnExactAddMark", spec := "fnExactAddMark", apart := false }
def FnExactAddMarkSaid : Prop := fnExactAddMarkRow.holds Try.pinned (OpenSpec.ofChange fnExactAddMarkSpec)

/-- ITS FALSE NEIGHBOUR: 'it returns false'. Refute it at one input. -/
def fnExactAddMarkWrong : ChangeSpec := { name := "fnExactAddMark", fn := fun _ => fun
  | [d1, d2] => { results := [.lit (.bool false)], args := [d1, d2] }
  | _ => none }
def FnExactAddMarkWrongFalsely : Prop := fnExactAddMarkRow.holds Try.pinned (OpenSpec.ofChange fnExactAddMarkWrong)

/-- 'laws.FnExactDropMark': WHATEVER THE INPUT: true; the input reads as it did. -/
def fnExactDropMarkSpec : ChangeSpec := { name := "fnExactDropMark", fn := fun _ => fun
  | [d1, d2] => { results := [.lit (.bool true)], args := [d1, d2] }
  | _ => none }
def fnExactDropMarkRow : OpenClaim := { program := "ytaihgdecoaajoaa", sum := "2802fe23bd895c5c877fd5a932bb0d8aa0f0abcc974f579fa0751feef1057ce3", func := "loop.example/g01305/laws.FnExactDropMark", spec := "fnExactDropMark", apart := false }
def FnExactDropMarkSaid : Prop := fnExactDropMarkRow.holds Try.pinned (OpenSpec.ofChange fnExactDropMarkSpec)

/-- ITS FALSE NEIGHBOUR: 'it returns false'. Refute it at one input. -/
def fnExactDropMarkWrong : ChangeSpec := { name := "fnExactDropMark", fn := fun _ => fun
  | [d1, d2] => { results := [.lit (.bool false)], args := [d1, d2] }
  | _ => none }
def FnExactDropMarkWrongFalsely : Prop := fnExactDropMarkRow.holds Try.pinned (OpenSpec.ofChange fnExactDropMarkWrong)

/-- 'laws.FnExactNeedlessMarks': WHATEVER THE INPUT: true; the input reads as it did. -/
def fnExactNeedlessMarksSpec : ChangeSpec := { name := "fnExactNeedlessMarks", fn := fun _ => fun
  | [d] => { results := [.lit (.bool true)], args := [d] }
  | _ => none }
def fnExactNeedlessMarksRow : OpenClaim := { program := "ytaihgdecoaajoaa", sum := "2802fe23bd895c5c877fd5a932bb0d8aa0f0abcc974f579fa0751feef1057ce3", func := "loop.example/g01305/laws.FnExactNeedlessMarks", spec := "fnExactNeedlessMarks", unfollowed := true, recurses := true, apart := false }
def FnExactNeedlessMarksSaid : Prop := fnExactNeedlessMarksRow.holds Try.pinned (OpenSpec.ofChange fnExactNeedlessMarksSpec)

/-- ITS FALSE NEIGHBOUR: 'it returns false'. Refute it at one input. -/
def fnExactNeedlessMarksWrong : ChangeSpec := { name := "fnExactNeedlessMarks", fn := fun _ => fun
  | [d] => { results := [.lit (.bool false)], args := [d] }
  | _ => none }
def FnExactNeedlessMarksWrongFalsely : Prop := fnExactNeedlessMarksRow.holds Try.pinned (OpenSpec.ofChange fnExactNeedlessMarksWrong)

/-- 'laws.FnExactRunOfRuler': WHATEVER THE INPUT: true; the input reads as it did. -/
def fnExactRunOfRulerSpec : ChangeSpec := { name := "fnExactRunOfRuler", fn := fun _ => fun
  | [d] => { results := [.lit (.bool true)], args := [d] }
  | _ => none }
def fnExactRunOfRulerRow : OpenClaim := { program := "ytaihgdecoaajoaa", sum := "2802fe23bd895c5c877fd5a932bb0d8aa0f0abcc974f579fa0751feef1057ce3", func := "loop.example/g01305/laws.FnExactRunOfRuler", spec := "fnExactRunOfRuler", unfollowed := true, recurses := true, apart := false }
def FnExactRunOfRulerSaid : Prop := fnExactRunOfRulerRow.holds Try.pinned (OpenSpec.ofChange fnExactRunOfRulerSpec)

/-- ITS FALSE NEIGHBOUR: 'it returns false'. Refute it at one input. -/
def fnExactRunOfRulerWrong : ChangeSpec := { name := "fnExactRunOfRuler", fn := fun _ => fun
  | [d] => { results := [.lit (.bool false)], args := [d] }
  | _ => none }
def FnExactRunOfRulerWrongFalsely : Prop := fnExactRunOfRulerRow.holds Try.pinned (OpenSpec.ofChange fnExactRunOfRulerWrong)

/-- 'laws.FnExactFewestMarks': WHATEVER THE INPUT: true; the input reads as it did. -/
def fnExactFewestMarksSpec : ChangeSpec := { name := "fnExactFewestMarks", fn := fun _ => fun
  | [d] => { results := [.lit (.bool true)], args := [d] }
  | _ => none }
def fnExactFewestMarksRow : OpenClaim := { program := "ytaihgdecoaajoaa", sum := "2802fe23bd895c5c877fd5a932bb0d8aa0f0abcc974f579fa0751feef1057ce3", func := "loop.example/g01305/laws.FnExactFewestMarks", spec := "fnExactFewestMarks", unfollowed := true, recurses := true, apart := false }
def FnExactFewestMarksSaid : Prop := fnExactFewestMarksRow.holds Try.pinned (OpenSpec.ofChange fnExactFewestMarksSpec)

/-- ITS FALSE NEIGHBOUR: 'it returns false'. Refute it at one input. -/
def fnExactFewestMarksWrong : ChangeSpec := { name := "fnExactFewestMarks", fn := fun _ => fun
  | [d] => { results := [.lit (.bool false)], args := [d] }
  | _ => none }
def FnExactFewestMarksWrongFalsely : Prop := fnExactFewestMarksRow.holds Try.pinned (OpenSpec.ofChange fnExactFewestMarksWrong)

/-- 'laws.FnExactFirstComplete': WHATEVER THE INPUT: true; the input reads as it did. -/
def fnExactFirstCompleteSpec : ChangeSpec := { name := "fnExactFirstComplete", fn := fun _ => fun
  | [d] => { results := [.lit (.bool true)], args := [d] }
  | _ => none }
def fnExactFirstCompleteRow : OpenClaim := { program := "ytaihgdecoaajoaa", sum := "2802fe23bd895c5c877fd5a932bb0d8aa0f0abcc974f579fa0751feef1057ce3", func := "loop.example/g01305/laws.FnExactFirstComplete", spec := "fnExactFirstComplete", unfollowed := true, recurses := true, apart := false }
def FnExactFirstCompleteSaid : Prop := fnExactFirstCompleteRow.holds Try.pinned (OpenSpec.ofChange fnExactFirstCompleteSpec)

/-- ITS FALSE NEIGHBOUR: 'it returns false'. Refute it at one input. -/
def fnExactFirstCompleteWrong : ChangeSpec := { name := "fnExactFirstComplete", fn := fun _ => fun
  | [d] => { results := [.lit (.bool false)], args := [d] }
  | _ => none }
def FnExactFirstCompleteWrongFalsely : Prop := fnExactFirstCompleteRow.holds Try.pinned (OpenSpec.ofChange fnExactFirstCompleteWrong)

/-- 'laws.FnExactCountComplete': WHATEVER THE INPUT: true; the input reads as it did. -/
def fnExactCountCompleteSpec : ChangeSpec := { name := "fnExactCountComplete", fn := fun _ => fun
  | [d] => { results := [.lit (.bool true)], args := [d] }
  | _ => none }
def fnExactCountCompleteRow : OpenClaim := { program := "ytaihgdecoaajoaa", sum := "2802fe23bd895c5c877fd5a932bb0d8aa0f0abcc974f579fa0751feef1057ce3", func := "loop.example/g01305/laws.FnExactCountComplete", spec := "fnExactCountComplete", unfollowed := true, recurses := true, apart := false }
def FnExactCountCompleteSaid : Prop := fnExactCountCompleteRow.holds Try.pinned (OpenSpec.ofChange fnExactCountCompleteSpec)

/-- ITS FALSE NEIGHBOUR: 'it returns false'. Refute it at one input. -/
def fnExactCountCompleteWrong : ChangeSpec := { name := "fnExactCountComplete", fn := fun _ => fun
  | [d] => { results := [.lit (.bool false)], args := [d] }
  | _ => none }
def FnExactCountCompleteWrongFalsely : Prop := fnExactCountCompleteRow.holds Try.pinned (OpenSpec.ofChange fnExactCountCompleteWrong)

/-- 'laws.FnExactShortestSparse': WHATEVER THE INPUT: true; the input reads as it did. -/
def fnExactShortestSparseSpec : ChangeSpec := { name := "fnExactShortestSparse", fn := fun _ => fun
  | [d] => { results := [.lit (.bool true)], args := [d] }
  | _ => none }
def fnExactShortestSparseRow : OpenClaim := { program := "ytaihgdecoaajoaa", sum := "2802fe23bd895c5c877fd5a932bb0d8aa0f0abcc974f579fa0751feef1057ce3", func := "loop.example/g01305/laws.FnExactShortestSparse", spec := "fnExactShortestSparse", unfollowed := true, recurses := true, apart := false }
def FnExactShortestSparseSaid : Prop := fnExactShortestSparseRow.holds Try.pinned (OpenSpec.ofChange fnExactShortestSparseSpec)

/-- ITS FALSE NEIGHBOUR: 'it returns false'. Refute it at one input. -/
def fnExactShortestSparseWrong : ChangeSpec := { name := "fnExactShortestSparse", fn := fun _ => fun
  | [d] => { results := [.lit (.bool false)], args := [d] }
  | _ => none }
def FnExactShortestSparseWrongFalsely : Prop := fnExactShortestSparseRow.holds Try.pinned (OpenSpec.ofChange fnExactShortestSparseWrong)

/-- 'laws.FnExactFirstSparse': WHATEVER THE INPUT: true; the input reads as it did. -/
def fnExactFirstSparseSpec : ChangeSpec := { name := "fnExactFirstSparse", fn := fun _ => fun
  | [d] => { results := [.lit (.bool true)], args := [d] }
  | _ => none }
def fnExactFirstSparseRow : OpenClaim := { program := "ytaihgdecoaajoaa", sum := "2802fe23bd895c5c877fd5a932bb0d8aa0f0abcc974f579fa0751feef1057ce3", func := "loop.example/g01305/laws.FnExactFirstSparse", spec := "fnExactFirstSparse", unfollowed := true, recurses := true, apart := false }
def FnExactFirstSparseSaid : Prop := fnExactFirstSparseRow.holds Try.pinned (OpenSpec.ofChange fnExactFirstSparseSpec)

/-- ITS FALSE NEIGHBOUR: 'it returns false'. Refute it at one input. -/
def fnExactFirstSparseWrong : ChangeSpec := { name := "fnExactFirstSparse", fn := fun _ => fun
  | [d] => { results := [.lit (.bool false)], args := [d] }
  | _ => none }
def FnExactFirstSparseWrongFalsely : Prop := fnExactFirstSparseRow.holds Try.pinned (OpenSpec.ofChange fnExactFirstSparseWrong)

/-- 'laws.FnExactGrowRuler': WHATEVER THE INPUT: true; the input reads as it did. -/
def fnExactGrowRulerSpec : ChangeSpec := { name := "fnExactGrowRuler", fn := fun _ => fun
  | [d1, d2] => { results := [.lit (.bool true)], args := [d1, d2] }
  | _ => none }
def fnExactGrowRulerRow : OpenClaim := { program := "ytaihgdecoaajoaa", sum := "2802fe23bd895c5c877fd5a932bb0d8aa0f0abcc974f579fa0751feef1057ce3", func := "loop.example/g01305/laws.FnExactGrowRuler", spec := "fnExactGrowRuler", apart := false }
def FnExactGrowRulerSaid : Prop := fnExactGrowRulerRow.holds Try.pinned (OpenSpec.ofChange fnExactGrowRulerSpec)

/-- ITS FALSE NEIGHBOUR: 'it returns false'. Refute it at one input. -/
def fnExactGrowRulerWrong : ChangeSpec := { name := "fnExactGrowRuler", fn := fun _ => fun
  | [d1, d2] => { results := [.lit (.bool false)], args := [d1, d2] }
  | _ => none }
def FnExactGrowRulerWrongFalsely : Prop := fnExactGrowRulerRow.holds Try.pinned (OpenSpec.ofChange fnExactGrowRulerWrong)

/- THE SECOND FORM. 'bulk': how many values and letters a reading holds, each counted each time it is reached (what is shared counts as often as it is met; a slice's spare places count too). A statement '..UptoSaid' is the law's where the arguments, and the package variables that the reading takes, are together of bulk at most 1048576: NARROWER than '..Said'. Prove '..Said' where nothing that the law and all that it calls make is longer than what came in: it says more and counts as full. Else prove '..UptoSaid'. A law counts once. -/
mutual
def uptoBulk {H : Type} : DataW H → Nat
  | .lit (.string bytes) => bytes.length + 1
  | .lit _ => 1
  | .nil => 1
  | .ptr d => uptoBulk d + 1
  | .slice elems spare => uptoBulkAll elems + uptoBulkAll spare + 1
  | .agg parts => uptoBulkAll parts + 1
  | .iface _ d => uptoBulk d + 1
  | .map entries => uptoBulkEntries entries + 1
  | .held _ => 1
def uptoBulkAll {H : Type} : List (DataW H) → Nat
  | [] => 0
  | d :: r => uptoBulk d + uptoBulkAll r
def uptoBulkEntries {H : Type} : List (Lit × DataW H) → Nat
  | [] => 0
  | x :: r => uptoBulkEntry x + uptoBulkEntries r
def uptoBulkEntry {H : Type} : Lit × DataW H → Nat
  | (.string bytes, d) => bytes.length + uptoBulk d + 1
  | (_, d) => uptoBulk d + 1
 end
def uptoSmall : (H : Type) → List (DataW H) → Bool := fun _ ds => decide (uptoBulkAll ds ≤ 1048576)
def OpenSpec.upto (s : _root_.Go.ChangeSpec) : _root_.Go.OpenSpec := { _root_.Go.OpenSpec.ofChange s with cond := some uptoSmall }

/-- 'laws.FnExactIsRuler', WHERE WHAT IT READS IS OF BULK AT MOST 1048576: true; the input reads as it did. -/
def fnExactIsRulerUptoRow : OpenClaim := { program := "ytaihgdecoaajoaa", sum := "2802fe23bd895c5c877fd5a932bb0d8aa0f0abcc974f579fa0751feef1057ce3", func := "loop.example/g01305/laws.FnExactIsRuler", spec := "fnExactIsRuler", apart := false, narrowed := true }
def FnExactIsRulerUptoSaid : Prop := fnExactIsRulerUptoRow.holds Try.pinned (OpenSpec.upto fnExactIsRulerSpec)

/-- 'laws.FnExactLengthsOf', WHERE WHAT IT READS IS OF BULK AT MOST 1048576: true; the input reads as it did. -/
def fnExactLengthsOfUptoRow : OpenClaim := { program := "ytaihgdecoaajoaa", sum := "2802fe23bd895c5c877fd5a932bb0d8aa0f0abcc974f579fa0751feef1057ce3", func := "loop.example/g01305/laws.FnExactLengthsOf", spec := "fnExactLengthsOf", unfollowed := true, recurses := true, apart := false, narrowed := true }
def FnExactLengthsOfUptoSaid : Prop := fnExactLengthsOfUptoRow.holds Try.pinned (OpenSpec.upto fnExactLengthsOfSpec)

/-- 'laws.FnExactWaysToMeasure', WHERE WHAT IT READS IS OF BULK AT MOST 1048576: true; the input reads as it did. -/
def fnExactWaysToMeasureUptoRow : OpenClaim := { program := "ytaihgdecoaajoaa", sum := "2802fe23bd895c5c877fd5a932bb0d8aa0f0abcc974f579fa0751feef1057ce3", func := "loop.example/g01305/laws.FnExactWaysToMeasure", spec := "fnExactWaysToMeasure", unfollowed := true, recurses := true, apart := false, narrowed := true }
def FnExactWaysToMeasureUptoSaid : Prop := fnExactWaysToMeasureUptoRow.holds Try.pinned (OpenSpec.upto fnExactWaysToMeasureSpec)

/-- 'laws.FnExactMissingLengths', WHERE WHAT IT READS IS OF BULK AT MOST 1048576: true; the input reads as it did. -/
def fnExactMissingLengthsUptoRow : OpenClaim := { program := "ytaihgdecoaajoaa", sum := "2802fe23bd895c5c877fd5a932bb0d8aa0f0abcc974f579fa0751feef1057ce3", func := "loop.example/g01305/laws.FnExactMissingLengths", spec := "fnExactMissingLengths", unfollowed := true, recurses := true, apart := false, narrowed := true }
def FnExactMissingLengthsUptoSaid : Prop := fnExactMissingLengthsUptoRow.holds Try.pinned (OpenSpec.upto fnExactMissingLengthsSpec)

/-- 'laws.FnExactIsComplete', WHERE WHAT IT READS IS OF BULK AT MOST 1048576: true; the input reads as it did. -/
def fnExactIsCompleteUptoRow : OpenClaim := { program := "ytaihgdecoaajoaa", sum := "2802fe23bd895c5c877fd5a932bb0d8aa0f0abcc974f579fa0751feef1057ce3", func := "loop.example/g01305/laws.FnExactIsComplete", spec := "fnExactIsComplete", unfollowed := true, recurses := true, apart := false, narrowed := true }
def FnExactIsCompleteUptoSaid : Prop := fnExactIsCompleteUptoRow.holds Try.pinned (OpenSpec.upto fnExactIsCompleteSpec)

/-- 'laws.FnExactIsSparse', WHERE WHAT IT READS IS OF BULK AT MOST 1048576: true; the input reads as it did. -/
def fnExactIsSparseUptoRow : OpenClaim := { program := "ytaihgdecoaajoaa", sum := "2802fe23bd895c5c877fd5a932bb0d8aa0f0abcc974f579fa0751feef1057ce3", func := "loop.example/g01305/laws.FnExactIsSparse", spec := "fnExactIsSparse", unfollowed := true, recurses := true, apart := false, narrowed := true }
def FnExactIsSparseUptoSaid : Prop := fnExactIsSparseUptoRow.holds Try.pinned (OpenSpec.upto fnExactIsSparseSpec)

/-- 'laws.FnExactMirrorRuler', WHERE WHAT IT READS IS OF BULK AT MOST 1048576: true; the input reads as it did. -/
def fnExactMirrorRulerUptoRow : OpenClaim := { program := "ytaihgdecoaajoaa", sum := "2802fe23bd895c5c877fd5a932bb0d8aa0f0abcc974f579fa0751feef1057ce3", func := "loop.example/g01305/laws.FnExactMirrorRuler", spec := "fnExactMirrorRuler", unfollowed := true, recurses := true, apart := false, narrowed := true }
def FnExactMirrorRulerUptoSaid : Prop := fnExactMirrorRulerUptoRow.holds Try.pinned (OpenSpec.upto fnExactMirrorRulerSpec)

/-- 'laws.FnExactAddMark', WHERE WHAT IT READS IS OF BULK AT MOST 1048576: true; the input reads as it did. -/
def fnExactAddMarkUptoRow : OpenClaim := { program := "ytaihgdecoaajoaa", sum := "2802fe23bd895c5c877fd5a932bb0d8aa0f0abcc974f579fa0751feef1057ce3", func := "loop.example/g01305/laws.FnExactAddMark", spec := "fnExactAddMark", apart := false, narrowed := true }
def FnExactAddMarkUptoSaid : Prop := fnExactAddMarkUptoRow.holds Try.pinned (OpenSpec.upto fnExactAddMarkSpec)

/-- 'laws.FnExactDropMark', WHERE WHAT IT READS IS OF BULK AT MOST 1048576: true; the input reads as it did. -/
def fnExactDropMarkUptoRow : OpenClaim := { program := "ytaihgdecoaajoaa", sum := "2802fe23bd895c5c877fd5a932bb0d8aa0f0abcc974f579fa0751feef1057ce3", func := "loop.example/g01305/laws.FnExactDropMark", spec := "fnExactDropMark", apart := false, narrowed := true }
def FnExactDropMarkUptoSaid : Prop := fnExactDropMarkUptoRow.holds Try.pinned (OpenSpec.upto fnExactDropMarkSpec)

/-- 'laws.FnExactNeedlessMarks', WHERE WHAT IT READS IS OF BULK AT MOST 1048576: true; the input reads as it did. -/
def fnExactNeedlessMarksUptoRow : OpenClaim := { program := "ytaihgdecoaajoaa", sum := "2802fe23bd895c5c877fd5a932bb0d8aa0f0abcc974f579fa0751feef1057ce3", func := "loop.example/g01305/laws.FnExactNeedlessMarks", spec := "fnExactNeedlessMarks", unfollowed := true, recurses := true, apart := false, narrowed := true }
def FnExactNeedlessMarksUptoSaid : Prop := fnExactNeedlessMarksUptoRow.holds Try.pinned (OpenSpec.upto fnExactNeedlessMarksSpec)

/-- 'laws.FnExactRunOfRuler', WHERE WHAT IT READS IS OF BULK AT MOST 1048576: true; the input reads as it did. -/
def fnExactRunOfRulerUptoRow : OpenClaim := { program := "ytaihgdecoaajoaa", sum := "2802fe23bd895c5c877fd5a932bb0d8aa0f0abcc974f579fa0751feef1057ce3", func := "loop.example/g01305/laws.FnExactRunOfRuler", spec := "fnExactRunOfRuler", unfollowed := true, recurses := true, apart := false, narrowed := true }
def FnExactRunOfRulerUptoSaid : Prop := fnExactRunOfRulerUptoRow.holds Try.pinned (OpenSpec.upto fnExactRunOfRulerSpec)

/-- 'laws.FnExactFewestMarks', WHERE WHAT IT READS IS OF BULK AT MOST 1048576: true; the input reads as it did. -/
def fnExactFewestMarksUptoRow : OpenClaim := { program := "ytaihgdecoaajoaa", sum := "2802fe23bd895c5c877fd5a932bb0d8aa0f0abcc974f579fa0751feef1057ce3", func := "loop.example/g01305/laws.FnExactFewestMarks", spec := "fnExactFewestMarks", unfollowed := true, recurses := true, apart := false, narrowed := true }
def FnExactFewestMarksUptoSaid : Prop := fnExactFewestMarksUptoRow.holds Try.pinned (OpenSpec.upto fnExactFewestMarksSpec)

/-- 'laws.FnExactFirstComplete', WHERE WHAT IT READS IS OF BULK AT MOST 1048576: true; the input reads as it did. -/
def fnExactFirstCompleteUptoRow : OpenClaim := { program := "ytaihgdecoaajoaa", sum := "2802fe23bd895c5c877fd5a932bb0d8aa0f0abcc974f579fa0751feef1057ce3", func := "loop.example/g01305/laws.FnExactFirstComplete", spec := "fnExactFirstComplete", unfollowed := true, recurses := true, apart := false, narrowed := true }
def FnExactFirstCompleteUptoSaid : Prop := fnExactFirstCompleteUptoRow.holds Try.pinned (OpenSpec.upto fnExactFirstCompleteSpec)

/-- 'laws.FnExactCountComplete', WHERE WHAT IT READS IS OF BULK AT MOST 1048576: true; the input reads as it did. -/
def fnExactCountCompleteUptoRow : OpenClaim := { program := "ytaihgdecoaajoaa", sum := "2802fe23bd895c5c877fd5a932bb0d8aa0f0abcc974f579fa0751feef1057ce3", func := "loop.example/g01305/laws.FnExactCountComplete", spec := "fnExactCountComplete", unfollowed := true, recurses := true, apart := false, narrowed := true }
def FnExactCountCompleteUptoSaid : Prop := fnExactCountCompleteUptoRow.holds Try.pinned (OpenSpec.upto fnExactCountCompleteSpec)

/-- 'laws.FnExactShortestSparse', WHERE WHAT IT READS IS OF BULK AT MOST 1048576: true; the input reads as it did. -/
def fnExactShortestSparseUptoRow : OpenClaim := { program := "ytaihgdecoaajoaa", sum := "2802fe23bd895c5c877fd5a932bb0d8aa0f0abcc974f579fa0751feef1057ce3", func := "loop.example/g01305/laws.FnExactShortestSparse", spec := "fnExactShortestSparse", unfollowed := true, recurses := true, apart := false, narrowed := true }
def FnExactShortestSparseUptoSaid : Prop := fnExactShortestSparseUptoRow.holds Try.pinned (OpenSpec.upto fnExactShortestSparseSpec)

/-- 'laws.FnExactFirstSparse', WHERE WHAT IT READS IS OF BULK AT MOST 1048576: true; the input reads as it did. -/
def fnExactFirstSparseUptoRow : OpenClaim := { program := "ytaihgdecoaajoaa", sum := "2802fe23bd895c5c877fd5a932bb0d8aa0f0abcc974f579fa0751feef1057ce3", func := "loop.example/g01305/laws.FnExactFirstSparse", spec := "fnExactFirstSparse", unfollowed := true, recurses := true, apart := false, narrowed := true }
def FnExactFirstSparseUptoSaid : Prop := fnExactFirstSparseUptoRow.holds Try.pinned (OpenSpec.upto fnExactFirstSparseSpec)

/-- 'laws.FnExactGrowRuler', WHERE WHAT IT READS IS OF BULK AT MOST 1048576: true; the input reads as it did. -/
def fnExactGrowRulerUptoRow : OpenClaim := { program := "ytaihgdecoaajoaa", sum := "2802fe23bd895c5c877fd5a932bb0d8aa0f0abcc974f579fa0751feef1057ce3", func := "loop.example/g01305/laws.FnExactGrowRuler", spec := "fnExactGrowRuler", apart := false, narrowed := true }
def FnExactGrowRulerUptoSaid : Prop := fnExactGrowRulerUptoRow.holds Try.pinned (OpenSpec.upto fnExactGrowRulerSpec)

end Rows
end Go.Proofs.Ytaihgdecoaajoaa
