/-
  No cell of these rows narrows 'for every input' (looked for: loops, veiled, ifaces, maps, wideKeys, modest, calm, conditions, laid).
  DERIVED. THE GIVEN ROWS OF THIS SEAT. 17 by the template 'for every input the law returns true; each argument reads behind the call as it read before'; 0 by the template 'total and deterministic' (their statements: YtnbbfpanidmpgaaTotals.lean).
  GIVEN WITH THE SEED: the statements are not yours to turn. If you find one false, say at which input.
  Laid BY PROGRAM, IN A SANDBOX (cutbox-rows.mjs): the forced cells as the released guide's own fill.sh prints them over the translation 5f15f1a57fd8a289… (all of the seat's roots in one cut). By AI agents, Wed Nov 11 2026. No macro, syntax, notation, axiom, sorry.
-/
import Derived.Test.YtnbbfpanidmpgaaChecked
import GoSem.Claim
import GoSem.ClaimJoined
import GoSem.ClaimMapViews
import Derived.JoinedTies
import Derived.KernelRfl
namespace Go.Proofs.Ytnbbfpanidmpgaa
/- THE CELL 'sum', in the pinned program and in every row, IS THE sha256 OF THE DUMP (.gsa) THAT YtnbbfpanidmpgaaProg.lean LOADS. Nothing in Lean hashes anything: it is a label: what it is worth is what the hold of that sum in a sandbox is worth. -/
noncomputable def Try.pinned : Pinned := { name := "ytnbbfpanidmpgaa", sum := "5f15f1a57fd8a28964e1ea58ece6623998d657574ac083865a3af5b168e8b8fa", checked := Try.checked }
namespace Rows
def none {H : Type} : Left H := { results := [], args := [] }

/-- 'laws.FnExactAreCuts': WHATEVER THE INPUT: true; the input reads as it did. -/
def fnExactAreCutsSpec : ChangeSpec := { name := "fnExactAreCuts", fn := fun _ => fun
  | [d1, d2] => { results := [.lit (.bool true)], args := [d1, d2] }
  | _ => none }
def fnExactAreCutsRow : OpenClaim := { program := "ytnbbfpanidmpgaa", sum := "5f15f1a57fd8a28964e1ea58ece6623998d657574ac083865a3af5b168e8b8fa", func := "loop.example/g01305/laws.FnExactAreCuts", spec := "fnExactAreCuts", plainKeys := false, apart := false }
def FnExactAreCutsSaid : Prop := fnExactAreCutsRow.holds Try.pinned (OpenSpec.ofChange fnExactAreCutsSpec)

/-- ITS FALSE NEIGHBOUR: 'it returns false'. Refute it at one input. -/
def fnExactAreCutsWrong : ChangeSpec := { name := "fnExactAreCuts", fn := fun _ => fun
  | [d1, d2] => { results := [.lit (.bool false)], args := [d1, d2] }
  | _ => none }
def FnExactAreCutsWrongFalsely : Prop := fnExactAreCutsRow.holds Try.pinned (OpenSpec.ofChange fnExactAreCutsWrong)

/-- 'laws.FnExactPartsOfCuts': WHATEVER THE INPUT: true; the input reads as it did. -/
def fnExactPartsOfCutsSpec : ChangeSpec := { name := "fnExactPartsOfCuts", fn := fun _ => fun
  | [d1, d2] => { results := [.lit (.bool true)], args := [d1, d2] }
  | _ => none }
def fnExactPartsOfCutsRow : OpenClaim := { program := "ytnbbfpanidmpgaa", sum := "5f15f1a57fd8a28964e1ea58ece6623998d657574ac083865a3af5b168e8b8fa", func := "loop.example/g01305/laws.FnExactPartsOfCuts", spec := "fnExactPartsOfCuts", plainKeys := false, apart := false }
def FnExactPartsOfCutsSaid : Prop := fnExactPartsOfCutsRow.holds Try.pinned (OpenSpec.ofChange fnExactPartsOfCutsSpec)

/-- ITS FALSE NEIGHBOUR: 'it returns false'. Refute it at one input. -/
def fnExactPartsOfCutsWrong : ChangeSpec := { name := "fnExactPartsOfCuts", fn := fun _ => fun
  | [d1, d2] => { results := [.lit (.bool false)], args := [d1, d2] }
  | _ => none }
def FnExactPartsOfCutsWrongFalsely : Prop := fnExactPartsOfCutsRow.holds Try.pinned (OpenSpec.ofChange fnExactPartsOfCutsWrong)

/-- 'laws.FnExactPiecesOfCuts': WHATEVER THE INPUT: true; the input reads as it did. -/
def fnExactPiecesOfCutsSpec : ChangeSpec := { name := "fnExactPiecesOfCuts", fn := fun _ => fun
  | [d1, d2] => { results := [.lit (.bool true)], args := [d1, d2] }
  | _ => none }
def fnExactPiecesOfCutsRow : OpenClaim := { program := "ytnbbfpanidmpgaa", sum := "5f15f1a57fd8a28964e1ea58ece6623998d657574ac083865a3af5b168e8b8fa", func := "loop.example/g01305/laws.FnExactPiecesOfCuts", spec := "fnExactPiecesOfCuts", recurses := true, plainKeys := false, apart := false }
def FnExactPiecesOfCutsSaid : Prop := fnExactPiecesOfCutsRow.holds Try.pinned (OpenSpec.ofChange fnExactPiecesOfCutsSpec)

/-- ITS FALSE NEIGHBOUR: 'it returns false'. Refute it at one input. -/
def fnExactPiecesOfCutsWrong : ChangeSpec := { name := "fnExactPiecesOfCuts", fn := fun _ => fun
  | [d1, d2] => { results := [.lit (.bool false)], args := [d1, d2] }
  | _ => none }
def FnExactPiecesOfCutsWrongFalsely : Prop := fnExactPiecesOfCutsRow.holds Try.pinned (OpenSpec.ofChange fnExactPiecesOfCutsWrong)

/-- 'laws.FnExactDoCutsPay': WHATEVER THE INPUT: true; the input reads as it did. -/
def fnExactDoCutsPaySpec : ChangeSpec := { name := "fnExactDoCutsPay", fn := fun _ => fun
  | [d1, d2] => { results := [.lit (.bool true)], args := [d1, d2] }
  | _ => none }
def fnExactDoCutsPayRow : OpenClaim := { program := "ytnbbfpanidmpgaa", sum := "5f15f1a57fd8a28964e1ea58ece6623998d657574ac083865a3af5b168e8b8fa", func := "loop.example/g01305/laws.FnExactDoCutsPay", spec := "fnExactDoCutsPay", recurses := true, plainKeys := false, apart := false }
def FnExactDoCutsPaySaid : Prop := fnExactDoCutsPayRow.holds Try.pinned (OpenSpec.ofChange fnExactDoCutsPaySpec)

/-- ITS FALSE NEIGHBOUR: 'it returns false'. Refute it at one input. -/
def fnExactDoCutsPayWrong : ChangeSpec := { name := "fnExactDoCutsPay", fn := fun _ => fun
  | [d1, d2] => { results := [.lit (.bool false)], args := [d1, d2] }
  | _ => none }
def FnExactDoCutsPayWrongFalsely : Prop := fnExactDoCutsPayRow.holds Try.pinned (OpenSpec.ofChange fnExactDoCutsPayWrong)

/-- 'laws.FnExactRunOfCuts': WHATEVER THE INPUT: true; the input reads as it did. -/
def fnExactRunOfCutsSpec : ChangeSpec := { name := "fnExactRunOfCuts", fn := fun _ => fun
  | [d1, d2] => { results := [.lit (.bool true)], args := [d1, d2] }
  | _ => none }
def fnExactRunOfCutsRow : OpenClaim := { program := "ytnbbfpanidmpgaa", sum := "5f15f1a57fd8a28964e1ea58ece6623998d657574ac083865a3af5b168e8b8fa", func := "loop.example/g01305/laws.FnExactRunOfCuts", spec := "fnExactRunOfCuts", recurses := true, plainKeys := false, apart := false }
def FnExactRunOfCutsSaid : Prop := fnExactRunOfCutsRow.holds Try.pinned (OpenSpec.ofChange fnExactRunOfCutsSpec)

/-- ITS FALSE NEIGHBOUR: 'it returns false'. Refute it at one input. -/
def fnExactRunOfCutsWrong : ChangeSpec := { name := "fnExactRunOfCuts", fn := fun _ => fun
  | [d1, d2] => { results := [.lit (.bool false)], args := [d1, d2] }
  | _ => none }
def FnExactRunOfCutsWrongFalsely : Prop := fnExactRunOfCutsRow.holds Try.pinned (OpenSpec.ofChange fnExactRunOfCutsWrong)

/-- 'laws.FnExactMostLinks': WHATEVER THE INPUT: true; the input reads as it did. -/
def fnExactMostLinksSpec : ChangeSpec := { name := "fnExactMostLinks", fn := fun _ => fun
  | [d] => { results := [.lit (.bool true)], args := [d] }
  | _ => none }
def fnExactMostLinksRow : OpenClaim := { program := "ytnbbfpanidmpgaa", sum := "5f15f1a57fd8a28964e1ea58ece6623998d657574ac083865a3af5b168e8b8fa", func := "loop.example/g01305/laws.FnExactMostLinks", spec := "fnExactMostLinks", plainKeys := false, apart := false }
def FnExactMostLinksSaid : Prop := fnExactMostLinksRow.holds Try.pinned (OpenSpec.ofChange fnExactMostLinksSpec)

/-- ITS FALSE NEIGHBOUR: 'it returns false'. Refute it at one input. -/
def fnExactMostLinksWrong : ChangeSpec := { name := "fnExactMostLinks", fn := fun _ => fun
  | [d] => { results := [.lit (.bool false)], args := [d] }
  | _ => none }
def FnExactMostLinksWrongFalsely : Prop := fnExactMostLinksRow.holds Try.pinned (OpenSpec.ofChange fnExactMostLinksWrong)

/-- 'laws.FnExactFewestCuts': WHATEVER THE INPUT: true; the input reads as it did. -/
def fnExactFewestCutsSpec : ChangeSpec := { name := "fnExactFewestCuts", fn := fun _ => fun
  | [d] => { results := [.lit (.bool true)], args := [d] }
  | _ => none }
def fnExactFewestCutsRow : OpenClaim := { program := "ytnbbfpanidmpgaa", sum := "5f15f1a57fd8a28964e1ea58ece6623998d657574ac083865a3af5b168e8b8fa", func := "loop.example/g01305/laws.FnExactFewestCuts", spec := "fnExactFewestCuts", plainKeys := false, apart := false }
def FnExactFewestCutsSaid : Prop := fnExactFewestCutsRow.holds Try.pinned (OpenSpec.ofChange fnExactFewestCutsSpec)

/-- ITS FALSE NEIGHBOUR: 'it returns false'. Refute it at one input. -/
def fnExactFewestCutsWrong : ChangeSpec := { name := "fnExactFewestCuts", fn := fun _ => fun
  | [d] => { results := [.lit (.bool false)], args := [d] }
  | _ => none }
def FnExactFewestCutsWrongFalsely : Prop := fnExactFewestCutsRow.holds Try.pinned (OpenSpec.ofChange fnExactFewestCutsWrong)

/-- 'laws.FnExactCutsForMost': WHATEVER THE INPUT: true; the input reads as it did. -/
def fnExactCutsForMostSpec : ChangeSpec := { name := "fnExactCutsForMost", fn := fun _ => fun
  | [d] => { results := [.lit (.bool true)], args := [d] }
  | _ => none }
def fnExactCutsForMostRow : OpenClaim := { program := "ytnbbfpanidmpgaa", sum := "5f15f1a57fd8a28964e1ea58ece6623998d657574ac083865a3af5b168e8b8fa", func := "loop.example/g01305/laws.FnExactCutsForMost", spec := "fnExactCutsForMost", plainKeys := false, apart := false }
def FnExactCutsForMostSaid : Prop := fnExactCutsForMostRow.holds Try.pinned (OpenSpec.ofChange fnExactCutsForMostSpec)

/-- ITS FALSE NEIGHBOUR: 'it returns false'. Refute it at one input. -/
def fnExactCutsForMostWrong : ChangeSpec := { name := "fnExactCutsForMost", fn := fun _ => fun
  | [d] => { results := [.lit (.bool false)], args := [d] }
  | _ => none }
def FnExactCutsForMostWrongFalsely : Prop := fnExactCutsForMostRow.holds Try.pinned (OpenSpec.ofChange fnExactCutsForMostWrong)

/-- 'laws.FnExactFirstCuts': WHATEVER THE INPUT: true; the input reads as it did. -/
def fnExactFirstCutsSpec : ChangeSpec := { name := "fnExactFirstCuts", fn := fun _ => fun
  | [d] => { results := [.lit (.bool true)], args := [d] }
  | _ => none }
def fnExactFirstCutsRow : OpenClaim := { program := "ytnbbfpanidmpgaa", sum := "5f15f1a57fd8a28964e1ea58ece6623998d657574ac083865a3af5b168e8b8fa", func := "loop.example/g01305/laws.FnExactFirstCuts", spec := "fnExactFirstCuts", recurses := true, plainKeys := false, apart := false }
def FnExactFirstCutsSaid : Prop := fnExactFirstCutsRow.holds Try.pinned (OpenSpec.ofChange fnExactFirstCutsSpec)

/-- ITS FALSE NEIGHBOUR: 'it returns false'. Refute it at one input. -/
def fnExactFirstCutsWrong : ChangeSpec := { name := "fnExactFirstCuts", fn := fun _ => fun
  | [d] => { results := [.lit (.bool false)], args := [d] }
  | _ => none }
def FnExactFirstCutsWrongFalsely : Prop := fnExactFirstCutsRow.holds Try.pinned (OpenSpec.ofChange fnExactFirstCutsWrong)

/-- 'laws.FnExactCountCuts': WHATEVER THE INPUT: true; the input reads as it did. -/
def fnExactCountCutsSpec : ChangeSpec := { name := "fnExactCountCuts", fn := fun _ => fun
  | [d] => { results := [.lit (.bool true)], args := [d] }
  | _ => none }
def fnExactCountCutsRow : OpenClaim := { program := "ytnbbfpanidmpgaa", sum := "5f15f1a57fd8a28964e1ea58ece6623998d657574ac083865a3af5b168e8b8fa", func := "loop.example/g01305/laws.FnExactCountCuts", spec := "fnExactCountCuts", recurses := true, plainKeys := false, apart := false }
def FnExactCountCutsSaid : Prop := fnExactCountCutsRow.holds Try.pinned (OpenSpec.ofChange fnExactCountCutsSpec)

/-- ITS FALSE NEIGHBOUR: 'it returns false'. Refute it at one input. -/
def fnExactCountCutsWrong : ChangeSpec := { name := "fnExactCountCuts", fn := fun _ => fun
  | [d] => { results := [.lit (.bool false)], args := [d] }
  | _ => none }
def FnExactCountCutsWrongFalsely : Prop := fnExactCountCutsRow.holds Try.pinned (OpenSpec.ofChange fnExactCountCutsWrong)

/-- 'laws.FnExactMirrorCuts': WHATEVER THE INPUT: true; the input reads as it did. -/
def fnExactMirrorCutsSpec : ChangeSpec := { name := "fnExactMirrorCuts", fn := fun _ => fun
  | [d1, d2] => { results := [.lit (.bool true)], args := [d1, d2] }
  | _ => none }
def fnExactMirrorCutsRow : OpenClaim := { program := "ytnbbfpanidmpgaa", sum := "5f15f1a57fd8a28964e1ea58ece6623998d657574ac083865a3af5b168e8b8fa", func := "loop.example/g01305/laws.FnExactMirrorCuts", spec := "fnExactMirrorCuts", unfollowed := true, recurses := true, plainKeys := false, apart := false }
def FnExactMirrorCutsSaid : Prop := fnExactMirrorCutsRow.holds Try.pinned (OpenSpec.ofChange fnExactMirrorCutsSpec)

/-- ITS FALSE NEIGHBOUR: 'it returns false'. Refute it at one input. -/
def fnExactMirrorCutsWrong : ChangeSpec := { name := "fnExactMirrorCuts", fn := fun _ => fun
  | [d1, d2] => { results := [.lit (.bool false)], args := [d1, d2] }
  | _ => none }
def FnExactMirrorCutsWrongFalsely : Prop := fnExactMirrorCutsRow.holds Try.pinned (OpenSpec.ofChange fnExactMirrorCutsWrong)

/-- 'laws.FnExactNeedlessCuts': WHATEVER THE INPUT: true; the input reads as it did. -/
def fnExactNeedlessCutsSpec : ChangeSpec := { name := "fnExactNeedlessCuts", fn := fun _ => fun
  | [d1, d2] => { results := [.lit (.bool true)], args := [d1, d2] }
  | _ => none }
def fnExactNeedlessCutsRow : OpenClaim := { program := "ytnbbfpanidmpgaa", sum := "5f15f1a57fd8a28964e1ea58ece6623998d657574ac083865a3af5b168e8b8fa", func := "loop.example/g01305/laws.FnExactNeedlessCuts", spec := "fnExactNeedlessCuts", recurses := true, plainKeys := false, apart := false }
def FnExactNeedlessCutsSaid : Prop := fnExactNeedlessCutsRow.holds Try.pinned (OpenSpec.ofChange fnExactNeedlessCutsSpec)

/-- ITS FALSE NEIGHBOUR: 'it returns false'. Refute it at one input. -/
def fnExactNeedlessCutsWrong : ChangeSpec := { name := "fnExactNeedlessCuts", fn := fun _ => fun
  | [d1, d2] => { results := [.lit (.bool false)], args := [d1, d2] }
  | _ => none }
def FnExactNeedlessCutsWrongFalsely : Prop := fnExactNeedlessCutsRow.holds Try.pinned (OpenSpec.ofChange fnExactNeedlessCutsWrong)

/-- 'laws.FnExactRingPieces': WHATEVER THE INPUT: true; the input reads as it did. -/
def fnExactRingPiecesSpec : ChangeSpec := { name := "fnExactRingPieces", fn := fun _ => fun
  | [d1, d2] => { results := [.lit (.bool true)], args := [d1, d2] }
  | _ => none }
def fnExactRingPiecesRow : OpenClaim := { program := "ytnbbfpanidmpgaa", sum := "5f15f1a57fd8a28964e1ea58ece6623998d657574ac083865a3af5b168e8b8fa", func := "loop.example/g01305/laws.FnExactRingPieces", spec := "fnExactRingPieces", recurses := true, plainKeys := false, apart := false }
def FnExactRingPiecesSaid : Prop := fnExactRingPiecesRow.holds Try.pinned (OpenSpec.ofChange fnExactRingPiecesSpec)

/-- ITS FALSE NEIGHBOUR: 'it returns false'. Refute it at one input. -/
def fnExactRingPiecesWrong : ChangeSpec := { name := "fnExactRingPieces", fn := fun _ => fun
  | [d1, d2] => { results := [.lit (.bool false)], args := [d1, d2] }
  | _ => none }
def FnExactRingPiecesWrongFalsely : Prop := fnExactRingPiecesRow.holds Try.pinned (OpenSpec.ofChange fnExactRingPiecesWrong)

/-- 'laws.FnExactMostRing': WHATEVER THE INPUT: true; the input reads as it did. -/
def fnExactMostRingSpec : ChangeSpec := { name := "fnExactMostRing", fn := fun _ => fun
  | [d] => { results := [.lit (.bool true)], args := [d] }
  | _ => none }
def fnExactMostRingRow : OpenClaim := { program := "ytnbbfpanidmpgaa", sum := "5f15f1a57fd8a28964e1ea58ece6623998d657574ac083865a3af5b168e8b8fa", func := "loop.example/g01305/laws.FnExactMostRing", spec := "fnExactMostRing", plainKeys := false, apart := false }
def FnExactMostRingSaid : Prop := fnExactMostRingRow.holds Try.pinned (OpenSpec.ofChange fnExactMostRingSpec)

/-- ITS FALSE NEIGHBOUR: 'it returns false'. Refute it at one input. -/
def fnExactMostRingWrong : ChangeSpec := { name := "fnExactMostRing", fn := fun _ => fun
  | [d] => { results := [.lit (.bool false)], args := [d] }
  | _ => none }
def FnExactMostRingWrongFalsely : Prop := fnExactMostRingRow.holds Try.pinned (OpenSpec.ofChange fnExactMostRingWrong)

/-- 'laws.FnExactFewestRingCuts': WHATEVER THE INPUT: true; the input reads as it did. -/
def fnExactFewestRingCutsSpec : ChangeSpec := { name := "fnExactFewestRingCuts", fn := fun _ => fun
  | [d] => { results := [.lit (.bool true)], args := [d] }
  | _ => none }
def fnExactFewestRingCutsRow : OpenClaim := { program := "ytnbbfpanidmpgaa", sum := "5f15f1a57fd8a28964e1ea58ece6623998d657574ac083865a3af5b168e8b8fa", func := "loop.example/g01305/laws.FnExactFewestRingCuts", spec := "fnExactFewestRingCuts", plainKeys := false, apart := false }
def FnExactFewestRingCutsSaid : Prop := fnExactFewestRingCutsRow.holds Try.pinned (OpenSpec.ofChange fnExactFewestRingCutsSpec)

/-- ITS FALSE NEIGHBOUR: 'it returns false'. Refute it at one input. -/
def fnExactFewestRingCutsWrong : ChangeSpec := { name := "fnExactFewestRingCuts", fn := fun _ => fun
  | [d] => { results := [.lit (.bool false)], args := [d] }
  | _ => none }
def FnExactFewestRingCutsWrongFalsely : Prop := fnExactFewestRingCutsRow.holds Try.pinned (OpenSpec.ofChange fnExactFewestRingCutsWrong)

/-- 'laws.FnExactFewestToJoin': WHATEVER THE INPUT: true; the input reads as it did. -/
def fnExactFewestToJoinSpec : ChangeSpec := { name := "fnExactFewestToJoin", fn := fun _ => fun
  | [d] => { results := [.lit (.bool true)], args := [d] }
  | _ => none }
def fnExactFewestToJoinRow : OpenClaim := { program := "ytnbbfpanidmpgaa", sum := "5f15f1a57fd8a28964e1ea58ece6623998d657574ac083865a3af5b168e8b8fa", func := "loop.example/g01305/laws.FnExactFewestToJoin", spec := "fnExactFewestToJoin", recurses := true, plainKeys := false, apart := false }
def FnExactFewestToJoinSaid : Prop := fnExactFewestToJoinRow.holds Try.pinned (OpenSpec.ofChange fnExactFewestToJoinSpec)

/-- ITS FALSE NEIGHBOUR: 'it returns false'. Refute it at one input. -/
def fnExactFewestToJoinWrong : ChangeSpec := { name := "fnExactFewestToJoin", fn := fun _ => fun
  | [d] => { results := [.lit (.bool false)], args := [d] }
  | _ => none }
def FnExactFewestToJoinWrongFalsely : Prop := fnExactFewestToJoinRow.holds Try.pinned (OpenSpec.ofChange fnExactFewestToJoinWrong)

/-- 'laws.FnExactSumsOf': WHATEVER THE INPUT: true; the input reads as it did. -/
def fnExactSumsOfSpec : ChangeSpec := { name := "fnExactSumsOf", fn := fun _ => fun
  | [d] => { results := [.lit (.bool true)], args := [d] }
  | _ => none }
def fnExactSumsOfRow : OpenClaim := { program := "ytnbbfpanidmpgaa", sum := "5f15f1a57fd8a28964e1ea58ece6623998d657574ac083865a3af5b168e8b8fa", func := "loop.example/g01305/laws.FnExactSumsOf", spec := "fnExactSumsOf", recurses := true, plainKeys := false, apart := false }
def FnExactSumsOfSaid : Prop := fnExactSumsOfRow.holds Try.pinned (OpenSpec.ofChange fnExactSumsOfSpec)

/-- ITS FALSE NEIGHBOUR: 'it returns false'. Refute it at one input. -/
def fnExactSumsOfWrong : ChangeSpec := { name := "fnExactSumsOf", fn := fun _ => fun
  | [d] => { results := [.lit (.bool false)], args := [d] }
  | _ => none }
def FnExactSumsOfWrongFalsely : Prop := fnExactSumsOfRow.holds Try.pinned (OpenSpec.ofChange fnExactSumsOfWrong)

/- THE SECOND FORM. 'bulk': how many values and letters a reading holds, each counted each time it is reached (what is shared counts as often as it is met; a slice's spare places count too). A statement '..UptoSaid' is the law's where the arguments, and the package variables that the reading takes, are together of bulk at most 1048576: NARROWER than '..Said'. Prove '..Said' where nothing that the law and all that it calls make is longer than what came in: it says more and counts as full. Else prove '..UptoSaid'. A law counts once. -/
mutual
def uptoBulk {H : Type} : DataW H → Nat
  | .lit (.string bytes) => bytes.length + 1
  | .lit _ => 1
  | .nil => 1
  | .ptr d => uptoBulk d + 1
  | .slice elems spare => uptoBulkAll elems + uptoBulkAll spare + 1
  | .agg parts => uptoBulkAll parts + 1
  | .iface _ d => uptoBulk d + 1
  | .map entries => uptoBulkEntries entries + 1
  | .held _ => 1
def uptoBulkAll {H : Type} : List (DataW H) → Nat
  | [] => 0
  | d :: r => uptoBulk d + uptoBulkAll r
def uptoBulkEntries {H : Type} : List (Lit × DataW H) → Nat
  | [] => 0
  | x :: r => uptoBulkEntry x + uptoBulkEntries r
def uptoBulkEntry {H : Type} : Lit × DataW H → Nat
  | (.string bytes, d) => bytes.length + uptoBulk d + 1
  | (_, d) => uptoBulk d + 1
 end
def uptoSmall : (H : Type) → List (DataW H) → Bool := fun _ ds => decide (uptoBulkAll ds ≤ 1048576)
def OpenSpec.upto (s : _root_.Go.ChangeSpec) : _root_.Go.OpenSpec := { _root_.Go.OpenSpec.ofChange s with cond := some uptoSmall }

/-- 'laws.FnExactAreCuts', WHERE WHAT IT READS IS OF BULK AT MOST 1048576: true; the input reads as it did. -/
def fnExactAreCutsUptoRow : OpenClaim := { program := "ytnbbfpanidmpgaa", sum := "5f15f1a57fd8a28964e1ea58ece6623998d657574ac083865a3af5b168e8b8fa", func := "loop.example/g01305/laws.FnExactAreCuts", spec := "fnExactAreCuts", plainKeys := false, apart := false, narrowed := true }
def FnExactAreCutsUptoSaid : Prop := fnExactAreCutsUptoRow.holds Try.pinned (OpenSpec.upto fnExactAreCutsSpec)

/-- 'laws.FnExactPartsOfCuts', WHERE WHAT IT READS IS OF BULK AT MOST 1048576: true; the input reads as it did. -/
def fnExactPartsOfCutsUptoRow : OpenClaim := { program := "ytnbbfpanidmpgaa", sum := "5f15f1a57fd8a28964e1ea58ece6623998d657574ac083865a3af5b168e8b8fa", func := "loop.example/g01305/laws.FnExactPartsOfCuts", spec := "fnExactPartsOfCuts", plainKeys := false, apart := false, narrowed := true }
def FnExactPartsOfCutsUptoSaid : Prop := fnExactPartsOfCutsUptoRow.holds Try.pinned (OpenSpec.upto fnExactPartsOfCutsSpec)

/-- 'laws.FnExactPiecesOfCuts', WHERE WHAT IT READS IS OF BULK AT MOST 1048576: true; the input reads as it did. -/
def fnExactPiecesOfCutsUptoRow : OpenClaim := { program := "ytnbbfpanidmpgaa", sum := "5f15f1a57fd8a28964e1ea58ece6623998d657574ac083865a3af5b168e8b8fa", func := "loop.example/g01305/laws.FnExactPiecesOfCuts", spec := "fnExactPiecesOfCuts", recurses := true, plainKeys := false, apart := false, narrowed := true }
def FnExactPiecesOfCutsUptoSaid : Prop := fnExactPiecesOfCutsUptoRow.holds Try.pinned (OpenSpec.upto fnExactPiecesOfCutsSpec)

/-- 'laws.FnExactDoCutsPay', WHERE WHAT IT READS IS OF BULK AT MOST 1048576: true; the input reads as it did. -/
def fnExactDoCutsPayUptoRow : OpenClaim := { program := "ytnbbfpanidmpgaa", sum := "5f15f1a57fd8a28964e1ea58ece6623998d657574ac083865a3af5b168e8b8fa", func := "loop.example/g01305/laws.FnExactDoCutsPay", spec := "fnExactDoCutsPay", recurses := true, plainKeys := false, apart := false, narrowed := true }
def FnExactDoCutsPayUptoSaid : Prop := fnExactDoCutsPayUptoRow.holds Try.pinned (OpenSpec.upto fnExactDoCutsPaySpec)

/-- 'laws.FnExactRunOfCuts', WHERE WHAT IT READS IS OF BULK AT MOST 1048576: true; the input reads as it did. -/
def fnExactRunOfCutsUptoRow : OpenClaim := { program := "ytnbbfpanidmpgaa", sum := "5f15f1a57fd8a28964e1ea58ece6623998d657574ac083865a3af5b168e8b8fa", func := "loop.example/g01305/laws.FnExactRunOfCuts", spec := "fnExactRunOfCuts", recurses := true, plainKeys := false, apart := false, narrowed := true }
def FnExactRunOfCutsUptoSaid : Prop := fnExactRunOfCutsUptoRow.holds Try.pinned (OpenSpec.upto fnExactRunOfCutsSpec)

/-- 'laws.FnExactMostLinks', WHERE WHAT IT READS IS OF BULK AT MOST 1048576: true; the input reads as it did. -/
def fnExactMostLinksUptoRow : OpenClaim := { program := "ytnbbfpanidmpgaa", sum := "5f15f1a57fd8a28964e1ea58ece6623998d657574ac083865a3af5b168e8b8fa", func := "loop.example/g01305/laws.FnExactMostLinks", spec := "fnExactMostLinks", plainKeys := false, apart := false, narrowed := true }
def FnExactMostLinksUptoSaid : Prop := fnExactMostLinksUptoRow.holds Try.pinned (OpenSpec.upto fnExactMostLinksSpec)

/-- 'laws.FnExactFewestCuts', WHERE WHAT IT READS IS OF BULK AT MOST 1048576: true; the input reads as it did. -/
def fnExactFewestCutsUptoRow : OpenClaim := { program := "ytnbbfpanidmpgaa", sum := "5f15f1a57fd8a28964e1ea58ece6623998d657574ac083865a3af5b168e8b8fa", func := "loop.example/g01305/laws.FnExactFewestCuts", spec := "fnExactFewestCuts", plainKeys := false, apart := false, narrowed := true }
def FnExactFewestCutsUptoSaid : Prop := fnExactFewestCutsUptoRow.holds Try.pinned (OpenSpec.upto fnExactFewestCutsSpec)

/-- 'laws.FnExactCutsForMost', WHERE WHAT IT READS IS OF BULK AT MOST 1048576: true; the input reads as it did. -/
def fnExactCutsForMostUptoRow : OpenClaim := { program := "ytnbbfpanidmpgaa", sum := "5f15f1a57fd8a28964e1ea58ece6623998d657574ac083865a3af5b168e8b8fa", func := "loop.example/g01305/laws.FnExactCutsForMost", spec := "fnExactCutsForMost", plainKeys := false, apart := false, narrowed := true }
def FnExactCutsForMostUptoSaid : Prop := fnExactCutsForMostUptoRow.holds Try.pinned (OpenSpec.upto fnExactCutsForMostSpec)

/-- 'laws.FnExactFirstCuts', WHERE WHAT IT READS IS OF BULK AT MOST 1048576: true; the input reads as it did. -/
def fnExactFirstCutsUptoRow : OpenClaim := { program := "ytnbbfpanidmpgaa", sum := "5f15f1a57fd8a28964e1ea58ece6623998d657574ac083865a3af5b168e8b8fa", func := "loop.example/g01305/laws.FnExactFirstCuts", spec := "fnExactFirstCuts", recurses := true, plainKeys := false, apart := false, narrowed := true }
def FnExactFirstCutsUptoSaid : Prop := fnExactFirstCutsUptoRow.holds Try.pinned (OpenSpec.upto fnExactFirstCutsSpec)

/-- 'laws.FnExactCountCuts', WHERE WHAT IT READS IS OF BULK AT MOST 1048576: true; the input reads as it did. -/
def fnExactCountCutsUptoRow : OpenClaim := { program := "ytnbbfpanidmpgaa", sum := "5f15f1a57fd8a28964e1ea58ece6623998d657574ac083865a3af5b168e8b8fa", func := "loop.example/g01305/laws.FnExactCountCuts", spec := "fnExactCountCuts", recurses := true, plainKeys := false, apart := false, narrowed := true }
def FnExactCountCutsUptoSaid : Prop := fnExactCountCutsUptoRow.holds Try.pinned (OpenSpec.upto fnExactCountCutsSpec)

/-- 'laws.FnExactMirrorCuts', WHERE WHAT IT READS IS OF BULK AT MOST 1048576: true; the input reads as it did. -/
def fnExactMirrorCutsUptoRow : OpenClaim := { program := "ytnbbfpanidmpgaa", sum := "5f15f1a57fd8a28964e1ea58ece6623998d657574ac083865a3af5b168e8b8fa", func := "loop.example/g01305/laws.FnExactMirrorCuts", spec := "fnExactMirrorCuts", unfollowed := true, recurses := true, plainKeys := false, apart := false, narrowed := true }
def FnExactMirrorCutsUptoSaid : Prop := fnExactMirrorCutsUptoRow.holds Try.pinned (OpenSpec.upto fnExactMirrorCutsSpec)

/-- 'laws.FnExactNeedlessCuts', WHERE WHAT IT READS IS OF BULK AT MOST 1048576: true; the input reads as it did. -/
def fnExactNeedlessCutsUptoRow : OpenClaim := { program := "ytnbbfpanidmpgaa", sum := "5f15f1a57fd8a28964e1ea58ece6623998d657574ac083865a3af5b168e8b8fa", func := "loop.example/g01305/laws.FnExactNeedlessCuts", spec := "fnExactNeedlessCuts", recurses := true, plainKeys := false, apart := false, narrowed := true }
def FnExactNeedlessCutsUptoSaid : Prop := fnExactNeedlessCutsUptoRow.holds Try.pinned (OpenSpec.upto fnExactNeedlessCutsSpec)

/-- 'laws.FnExactRingPieces', WHERE WHAT IT READS IS OF BULK AT MOST 1048576: true; the input reads as it did. -/
def fnExactRingPiecesUptoRow : OpenClaim := { program := "ytnbbfpanidmpgaa", sum := "5f15f1a57fd8a28964e1ea58ece6623998d657574ac083865a3af5b168e8b8fa", func := "loop.example/g01305/laws.FnExactRingPieces", spec := "fnExactRingPieces", recurses := true, plainKeys := false, apart := false, narrowed := true }
def FnExactRingPiecesUptoSaid : Prop := fnExactRingPiecesUptoRow.holds Try.pinned (OpenSpec.upto fnExactRingPiecesSpec)

/-- 'laws.FnExactMostRing', WHERE WHAT IT READS IS OF BULK AT MOST 1048576: true; the input reads as it did. -/
def fnExactMostRingUptoRow : OpenClaim := { program := "ytnbbfpanidmpgaa", sum := "5f15f1a57fd8a28964e1ea58ece6623998d657574ac083865a3af5b168e8b8fa", func := "loop.example/g01305/laws.FnExactMostRing", spec := "fnExactMostRing", plainKeys := false, apart := false, narrowed := true }
def FnExactMostRingUptoSaid : Prop := fnExactMostRingUptoRow.holds Try.pinned (OpenSpec.upto fnExactMostRingSpec)

/-- 'laws.FnExactFewestRingCuts', WHERE WHAT IT READS IS OF BULK AT MOST 1048576: true; the input reads as it did. -/
def fnExactFewestRingCutsUptoRow : OpenClaim := { program := "ytnbbfpanidmpgaa", sum := "5f15f1a57fd8a28964e1ea58ece6623998d657574ac083865a3af5b168e8b8fa", func := "loop.example/g01305/laws.FnExactFewestRingCuts", spec := "fnExactFewestRingCuts", plainKeys := false, apart := false, narrowed := true }
def FnExactFewestRingCutsUptoSaid : Prop := fnExactFewestRingCutsUptoRow.holds Try.pinned (OpenSpec.upto fnExactFewestRingCutsSpec)

/-- 'laws.FnExactFewestToJoin', WHERE WHAT IT READS IS OF BULK AT MOST 1048576: true; the input reads as it did. -/
def fnExactFewestToJoinUptoRow : OpenClaim := { program := "ytnbbfpanidmpgaa", sum := "5f15f1a57fd8a28964e1ea58ece6623998d657574ac083865a3af5b168e8b8fa", func := "loop.example/g01305/laws.FnExactFewestToJoin", spec := "fnExactFewestToJoin", recurses := true, plainKeys := false, apart := false, narrowed := true }
def FnExactFewestToJoinUptoSaid : Prop := fnExactFewestToJoinUptoRow.holds Try.pinned (OpenSpec.upto fnExactFewestToJoinSpec)

/-- 'laws.FnExactSumsOf', WHERE WHAT IT READS IS OF BULK AT MOST 1048576: true; the input reads as it did. -/
def fnExactSumsOfUptoRow : OpenClaim := { program := "ytnbbfpanidmpgaa", sum := "5f15f1a57fd8a28964e1ea58ece6623998d657574ac083865a3af5b168e8b8fa", func := "loop.example/g01305/laws.FnExactSumsOf", spec := "fnExactSumsOf", recurses := true, plainKeys := false, apart := false, narrowed := true }
def FnExactSumsOfUptoSaid : Prop := fnExactSumsOfUptoRow.holds Try.pinned (OpenSpec.upto fnExactSumsOfSpec)

end Rows
end Go.Proofs.Ytnbbfpanidmpgaa
