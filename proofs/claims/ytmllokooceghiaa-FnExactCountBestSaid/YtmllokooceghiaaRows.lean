/-
  No cell of these rows narrows 'for every input' (looked for: loops, veiled, ifaces, maps, wideKeys, modest, calm, conditions, laid).
  DERIVED. THE GIVEN ROWS OF THIS SEAT. 14 by the template 'for every input the law returns true; each argument reads behind the call as it read before'; 0 by the template 'total and deterministic' (their statements: YtmllokooceghiaaTotals.lean).
  GIVEN WITH THE SEED: the statements are not yours to turn. If you find one false, say at which input.
  Laid BY PROGRAM, IN A SANDBOX (cutbox-rows.mjs): the forced cells as the released guide's own fill.sh prints them over the translation 4a9355f635648f54… (all of the seat's roots in one cut). By AI agents, Wed Nov 11 2026. No macro, syntax, notation, axiom, sorry.
-/
import Derived.Test.YtmllokooceghiaaChecked
import GoSem.Claim
import GoSem.ClaimJoined
import GoSem.ClaimMapViews
import Derived.JoinedTies
import Derived.KernelRfl
namespace Go.Proofs.Ytmllokooceghiaa
/- THE CELL 'sum', in the pinned program and in every row, IS THE sha256 OF THE DUMP (.gsa) THAT YtmllokooceghiaaProg.lean LOADS. Nothing in Lean hashes anything: it is a label: what it is worth is what the hold of that sum in a sandbox is worth. -/
noncomputable def Try.pinned : Pinned := { name := "ytmllokooceghiaa", sum := "4a9355f635648f54a8324c0d939be4ebe98d3d3f5c9a586b55c12bd2ca590d1d", checked := Try.checked }
namespace Rows
def none {H : Type} : Left H := { results := [], args := [] }

/-- 'laws.FnExactAreStamps': WHATEVER THE INPUT: true; the input reads as it did. -/
def fnExactAreStampsSpec : ChangeSpec := { name := "fnExactAreStamps", fn := fun _ => fun
  | [d] => { results := [.lit (.bool true)], args := [d] }
  | _ => none }
def fnExactAreStampsRow : OpenClaim := { program := "ytmllokooceghiaa", sum := "4a9355f635648f54a8324c0d939be4ebe98d3d3f5c9a586b55c12bd2ca590d1d", func := "loop.example/g01305/laws.FnExactAreStamps", spec := "fnExactAreStamps", apart := false }
def FnExactAreStampsSaid : Prop := fnExactAreStampsRow.holds Try.pinned (OpenSpec.ofChange fnExactAreStampsSpec)

/-- ITS FALSE NEIGHBOUR: 'it returns false'. Refute it at one input. -/
def fnExactAreStampsWrong : ChangeSpec := { name := "fnExactAreStamps", fn := fun _ => fun
  | [d] => { results := [.lit (.bool false)], args := [d] }
  | _ => none }
def FnExactAreStampsWrongFalsely : Prop := fnExactAreStampsRow.holds Try.pinned (OpenSpec.ofChange fnExactAreStampsWrong)

/-- 'laws.FnExactCanStamp': WHATEVER THE INPUT: true; the input reads as it did. -/
def fnExactCanStampSpec : ChangeSpec := { name := "fnExactCanStamp", fn := fun _ => fun
  | [d1, d2, d3] => { results := [.lit (.bool true)], args := [d1, d2, d3] }
  | _ => none }
def fnExactCanStampRow : OpenClaim := { program := "ytmllokooceghiaa", sum := "4a9355f635648f54a8324c0d939be4ebe98d3d3f5c9a586b55c12bd2ca590d1d", func := "loop.example/g01305/laws.FnExactCanStamp", spec := "fnExactCanStamp", unfollowed := true, recurses := true, apart := false }
def FnExactCanStampSaid : Prop := fnExactCanStampRow.holds Try.pinned (OpenSpec.ofChange fnExactCanStampSpec)

/-- ITS FALSE NEIGHBOUR: 'it returns false'. Refute it at one input. -/
def fnExactCanStampWrong : ChangeSpec := { name := "fnExactCanStamp", fn := fun _ => fun
  | [d1, d2, d3] => { results := [.lit (.bool false)], args := [d1, d2, d3] }
  | _ => none }
def FnExactCanStampWrongFalsely : Prop := fnExactCanStampRow.holds Try.pinned (OpenSpec.ofChange fnExactCanStampWrong)

/-- 'laws.FnExactReachOf': WHATEVER THE INPUT: true; the input reads as it did. -/
def fnExactReachOfSpec : ChangeSpec := { name := "fnExactReachOf", fn := fun _ => fun
  | [d1, d2] => { results := [.lit (.bool true)], args := [d1, d2] }
  | _ => none }
def fnExactReachOfRow : OpenClaim := { program := "ytmllokooceghiaa", sum := "4a9355f635648f54a8324c0d939be4ebe98d3d3f5c9a586b55c12bd2ca590d1d", func := "loop.example/g01305/laws.FnExactReachOf", spec := "fnExactReachOf", unfollowed := true, recurses := true, apart := false }
def FnExactReachOfSaid : Prop := fnExactReachOfRow.holds Try.pinned (OpenSpec.ofChange fnExactReachOfSpec)

/-- ITS FALSE NEIGHBOUR: 'it returns false'. Refute it at one input. -/
def fnExactReachOfWrong : ChangeSpec := { name := "fnExactReachOf", fn := fun _ => fun
  | [d1, d2] => { results := [.lit (.bool false)], args := [d1, d2] }
  | _ => none }
def FnExactReachOfWrongFalsely : Prop := fnExactReachOfRow.holds Try.pinned (OpenSpec.ofChange fnExactReachOfWrong)

/-- 'laws.FnExactFewestStamps': WHATEVER THE INPUT: true; the input reads as it did. -/
def fnExactFewestStampsSpec : ChangeSpec := { name := "fnExactFewestStamps", fn := fun _ => fun
  | [d1, d2] => { results := [.lit (.bool true)], args := [d1, d2] }
  | _ => none }
def fnExactFewestStampsRow : OpenClaim := { program := "ytmllokooceghiaa", sum := "4a9355f635648f54a8324c0d939be4ebe98d3d3f5c9a586b55c12bd2ca590d1d", func := "loop.example/g01305/laws.FnExactFewestStamps", spec := "fnExactFewestStamps", unfollowed := true, recurses := true, apart := false }
def FnExactFewestStampsSaid : Prop := fnExactFewestStampsRow.holds Try.pinned (OpenSpec.ofChange fnExactFewestStampsSpec)

/-- ITS FALSE NEIGHBOUR: 'it returns false'. Refute it at one input. -/
def fnExactFewestStampsWrong : ChangeSpec := { name := "fnExactFewestStamps", fn := fun _ => fun
  | [d1, d2] => { results := [.lit (.bool false)], args := [d1, d2] }
  | _ => none }
def FnExactFewestStampsWrongFalsely : Prop := fnExactFewestStampsRow.holds Try.pinned (OpenSpec.ofChange fnExactFewestStampsWrong)

/-- 'laws.FnExactFirstStamps': WHATEVER THE INPUT: true; the input reads as it did. -/
def fnExactFirstStampsSpec : ChangeSpec := { name := "fnExactFirstStamps", fn := fun _ => fun
  | [d1, d2, d3] => { results := [.lit (.bool true)], args := [d1, d2, d3] }
  | _ => none }
def fnExactFirstStampsRow : OpenClaim := { program := "ytmllokooceghiaa", sum := "4a9355f635648f54a8324c0d939be4ebe98d3d3f5c9a586b55c12bd2ca590d1d", func := "loop.example/g01305/laws.FnExactFirstStamps", spec := "fnExactFirstStamps", recurses := true, apart := false }
def FnExactFirstStampsSaid : Prop := fnExactFirstStampsRow.holds Try.pinned (OpenSpec.ofChange fnExactFirstStampsSpec)

/-- ITS FALSE NEIGHBOUR: 'it returns false'. Refute it at one input. -/
def fnExactFirstStampsWrong : ChangeSpec := { name := "fnExactFirstStamps", fn := fun _ => fun
  | [d1, d2, d3] => { results := [.lit (.bool false)], args := [d1, d2, d3] }
  | _ => none }
def FnExactFirstStampsWrongFalsely : Prop := fnExactFirstStampsRow.holds Try.pinned (OpenSpec.ofChange fnExactFirstStampsWrong)

/-- 'laws.FnExactCountStampWays': WHATEVER THE INPUT: true; the input reads as it did. -/
def fnExactCountStampWaysSpec : ChangeSpec := { name := "fnExactCountStampWays", fn := fun _ => fun
  | [d1, d2, d3] => { results := [.lit (.bool true)], args := [d1, d2, d3] }
  | _ => none }
def fnExactCountStampWaysRow : OpenClaim := { program := "ytmllokooceghiaa", sum := "4a9355f635648f54a8324c0d939be4ebe98d3d3f5c9a586b55c12bd2ca590d1d", func := "loop.example/g01305/laws.FnExactCountStampWays", spec := "fnExactCountStampWays", recurses := true, apart := false }
def FnExactCountStampWaysSaid : Prop := fnExactCountStampWaysRow.holds Try.pinned (OpenSpec.ofChange fnExactCountStampWaysSpec)

/-- ITS FALSE NEIGHBOUR: 'it returns false'. Refute it at one input. -/
def fnExactCountStampWaysWrong : ChangeSpec := { name := "fnExactCountStampWays", fn := fun _ => fun
  | [d1, d2, d3] => { results := [.lit (.bool false)], args := [d1, d2, d3] }
  | _ => none }
def FnExactCountStampWaysWrongFalsely : Prop := fnExactCountStampWaysRow.holds Try.pinned (OpenSpec.ofChange fnExactCountStampWaysWrong)

/-- 'laws.FnExactValuesOf': WHATEVER THE INPUT: true; the input reads as it did. -/
def fnExactValuesOfSpec : ChangeSpec := { name := "fnExactValuesOf", fn := fun _ => fun
  | [d1, d2] => { results := [.lit (.bool true)], args := [d1, d2] }
  | _ => none }
def fnExactValuesOfRow : OpenClaim := { program := "ytmllokooceghiaa", sum := "4a9355f635648f54a8324c0d939be4ebe98d3d3f5c9a586b55c12bd2ca590d1d", func := "loop.example/g01305/laws.FnExactValuesOf", spec := "fnExactValuesOf", unfollowed := true, recurses := true, apart := false }
def FnExactValuesOfSaid : Prop := fnExactValuesOfRow.holds Try.pinned (OpenSpec.ofChange fnExactValuesOfSpec)

/-- ITS FALSE NEIGHBOUR: 'it returns false'. Refute it at one input. -/
def fnExactValuesOfWrong : ChangeSpec := { name := "fnExactValuesOf", fn := fun _ => fun
  | [d1, d2] => { results := [.lit (.bool false)], args := [d1, d2] }
  | _ => none }
def FnExactValuesOfWrongFalsely : Prop := fnExactValuesOfRow.holds Try.pinned (OpenSpec.ofChange fnExactValuesOfWrong)

/-- 'laws.FnExactValuesWith': WHATEVER THE INPUT: true; the input reads as it did. -/
def fnExactValuesWithSpec : ChangeSpec := { name := "fnExactValuesWith", fn := fun _ => fun
  | [d1, d2] => { results := [.lit (.bool true)], args := [d1, d2] }
  | _ => none }
def fnExactValuesWithRow : OpenClaim := { program := "ytmllokooceghiaa", sum := "4a9355f635648f54a8324c0d939be4ebe98d3d3f5c9a586b55c12bd2ca590d1d", func := "loop.example/g01305/laws.FnExactValuesWith", spec := "fnExactValuesWith", unfollowed := true, recurses := true, apart := false }
def FnExactValuesWithSaid : Prop := fnExactValuesWithRow.holds Try.pinned (OpenSpec.ofChange fnExactValuesWithSpec)

/-- ITS FALSE NEIGHBOUR: 'it returns false'. Refute it at one input. -/
def fnExactValuesWithWrong : ChangeSpec := { name := "fnExactValuesWith", fn := fun _ => fun
  | [d1, d2] => { results := [.lit (.bool false)], args := [d1, d2] }
  | _ => none }
def FnExactValuesWithWrongFalsely : Prop := fnExactValuesWithRow.holds Try.pinned (OpenSpec.ofChange fnExactValuesWithWrong)

/-- 'laws.FnExactNextStamp': WHATEVER THE INPUT: true; the input reads as it did. -/
def fnExactNextStampSpec : ChangeSpec := { name := "fnExactNextStamp", fn := fun _ => fun
  | [d1, d2] => { results := [.lit (.bool true)], args := [d1, d2] }
  | _ => none }
def fnExactNextStampRow : OpenClaim := { program := "ytmllokooceghiaa", sum := "4a9355f635648f54a8324c0d939be4ebe98d3d3f5c9a586b55c12bd2ca590d1d", func := "loop.example/g01305/laws.FnExactNextStamp", spec := "fnExactNextStamp", unfollowed := true, recurses := true, apart := false }
def FnExactNextStampSaid : Prop := fnExactNextStampRow.holds Try.pinned (OpenSpec.ofChange fnExactNextStampSpec)

/-- ITS FALSE NEIGHBOUR: 'it returns false'. Refute it at one input. -/
def fnExactNextStampWrong : ChangeSpec := { name := "fnExactNextStamp", fn := fun _ => fun
  | [d1, d2] => { results := [.lit (.bool false)], args := [d1, d2] }
  | _ => none }
def FnExactNextStampWrongFalsely : Prop := fnExactNextStampRow.holds Try.pinned (OpenSpec.ofChange fnExactNextStampWrong)

/-- 'laws.FnExactBestReach': WHATEVER THE INPUT: true; the input reads as it did. -/
def fnExactBestReachSpec : ChangeSpec := { name := "fnExactBestReach", fn := fun _ => fun
  | [d1, d2] => { results := [.lit (.bool true)], args := [d1, d2] }
  | _ => none }
def fnExactBestReachRow : OpenClaim := { program := "ytmllokooceghiaa", sum := "4a9355f635648f54a8324c0d939be4ebe98d3d3f5c9a586b55c12bd2ca590d1d", func := "loop.example/g01305/laws.FnExactBestReach", spec := "fnExactBestReach", unfollowed := true, recurses := true, apart := false }
def FnExactBestReachSaid : Prop := fnExactBestReachRow.holds Try.pinned (OpenSpec.ofChange fnExactBestReachSpec)

/-- ITS FALSE NEIGHBOUR: 'it returns false'. Refute it at one input. -/
def fnExactBestReachWrong : ChangeSpec := { name := "fnExactBestReach", fn := fun _ => fun
  | [d1, d2] => { results := [.lit (.bool false)], args := [d1, d2] }
  | _ => none }
def FnExactBestReachWrongFalsely : Prop := fnExactBestReachRow.holds Try.pinned (OpenSpec.ofChange fnExactBestReachWrong)

/-- 'laws.FnExactFirstBest': WHATEVER THE INPUT: true; the input reads as it did. -/
def fnExactFirstBestSpec : ChangeSpec := { name := "fnExactFirstBest", fn := fun _ => fun
  | [d1, d2] => { results := [.lit (.bool true)], args := [d1, d2] }
  | _ => none }
def fnExactFirstBestRow : OpenClaim := { program := "ytmllokooceghiaa", sum := "4a9355f635648f54a8324c0d939be4ebe98d3d3f5c9a586b55c12bd2ca590d1d", func := "loop.example/g01305/laws.FnExactFirstBest", spec := "fnExactFirstBest", unfollowed := true, recurses := true, apart := false }
def FnExactFirstBestSaid : Prop := fnExactFirstBestRow.holds Try.pinned (OpenSpec.ofChange fnExactFirstBestSpec)

/-- ITS FALSE NEIGHBOUR: 'it returns false'. Refute it at one input. -/
def fnExactFirstBestWrong : ChangeSpec := { name := "fnExactFirstBest", fn := fun _ => fun
  | [d1, d2] => { results := [.lit (.bool false)], args := [d1, d2] }
  | _ => none }
def FnExactFirstBestWrongFalsely : Prop := fnExactFirstBestRow.holds Try.pinned (OpenSpec.ofChange fnExactFirstBestWrong)

/-- 'laws.FnExactCountBest': WHATEVER THE INPUT: true; the input reads as it did. -/
def fnExactCountBestSpec : ChangeSpec := { name := "fnExactCountBest", fn := fun _ => fun
  | [d1, d2] => { results := [.lit (.bool true)], args := [d1, d2] }
  | _ => none }
def fnExactCountBestRow : OpenClaim := { program := "ytmllokooceghiaa", sum := "4a9355f635648f54a8324c0d939be4ebe98d3d3f5c9a586b55c12bd2ca590d1d", func := "loop.example/g01305/laws.FnExactCountBest", spec := "fnExactCountBest", unfollowed := true, recurses := true, apart := false }
def FnExactCountBestSaid : Prop := fnExactCountBestRow.holds Try.pinned (OpenSpec.ofChange fnExactCountBestSpec)

/-- ITS FALSE NEIGHBOUR: 'it returns false'. Refute it at one input. -/
def fnExactCountBestWrong : ChangeSpec := { name := "fnExactCountBest", fn := fun _ => fun
  | [d1, d2] => { results := [.lit (.bool false)], args := [d1, d2] }
  | _ => none }
def FnExactCountBestWrongFalsely : Prop := fnExactCountBestRow.holds Try.pinned (OpenSpec.ofChange fnExactCountBestWrong)

/-- 'laws.FnExactNeedlessStamps': WHATEVER THE INPUT: true; the input reads as it did. -/
def fnExactNeedlessStampsSpec : ChangeSpec := { name := "fnExactNeedlessStamps", fn := fun _ => fun
  | [d1, d2] => { results := [.lit (.bool true)], args := [d1, d2] }
  | _ => none }
def fnExactNeedlessStampsRow : OpenClaim := { program := "ytmllokooceghiaa", sum := "4a9355f635648f54a8324c0d939be4ebe98d3d3f5c9a586b55c12bd2ca590d1d", func := "loop.example/g01305/laws.FnExactNeedlessStamps", spec := "fnExactNeedlessStamps", unfollowed := true, recurses := true, apart := false }
def FnExactNeedlessStampsSaid : Prop := fnExactNeedlessStampsRow.holds Try.pinned (OpenSpec.ofChange fnExactNeedlessStampsSpec)

/-- ITS FALSE NEIGHBOUR: 'it returns false'. Refute it at one input. -/
def fnExactNeedlessStampsWrong : ChangeSpec := { name := "fnExactNeedlessStamps", fn := fun _ => fun
  | [d1, d2] => { results := [.lit (.bool false)], args := [d1, d2] }
  | _ => none }
def FnExactNeedlessStampsWrongFalsely : Prop := fnExactNeedlessStampsRow.holds Try.pinned (OpenSpec.ofChange fnExactNeedlessStampsWrong)

/-- 'laws.FnExactRoomFor': WHATEVER THE INPUT: true; the input reads as it did. -/
def fnExactRoomForSpec : ChangeSpec := { name := "fnExactRoomFor", fn := fun _ => fun
  | [d1, d2] => { results := [.lit (.bool true)], args := [d1, d2] }
  | _ => none }
def fnExactRoomForRow : OpenClaim := { program := "ytmllokooceghiaa", sum := "4a9355f635648f54a8324c0d939be4ebe98d3d3f5c9a586b55c12bd2ca590d1d", func := "loop.example/g01305/laws.FnExactRoomFor", spec := "fnExactRoomFor", unfollowed := true, recurses := true, apart := false }
def FnExactRoomForSaid : Prop := fnExactRoomForRow.holds Try.pinned (OpenSpec.ofChange fnExactRoomForSpec)

/-- ITS FALSE NEIGHBOUR: 'it returns false'. Refute it at one input. -/
def fnExactRoomForWrong : ChangeSpec := { name := "fnExactRoomFor", fn := fun _ => fun
  | [d1, d2] => { results := [.lit (.bool false)], args := [d1, d2] }
  | _ => none }
def FnExactRoomForWrongFalsely : Prop := fnExactRoomForRow.holds Try.pinned (OpenSpec.ofChange fnExactRoomForWrong)

/- THE SECOND FORM. 'bulk': how many values and letters a reading holds, each counted each time it is reached (what is shared counts as often as it is met; a slice's spare places count too). A statement '..UptoSaid' is the law's where the arguments, and the package variables that the reading takes, are together of bulk at most 1048576: NARROWER than '..Said'. Prove '..Said' where nothing that the law and all that it calls make is longer than what came in: it says more and counts as full. Else prove '..UptoSaid'. A law counts once. -/
mutual
def uptoBulk {H : Type} : DataW H → Nat
  | .lit (.string bytes) => bytes.length + 1
  | .lit _ => 1
  | .nil => 1
  | .ptr d => uptoBulk d + 1
  | .slice elems spare => uptoBulkAll elems + uptoBulkAll spare + 1
  | .agg parts => uptoBulkAll parts + 1
  | .iface _ d => uptoBulk d + 1
  | .map entries => uptoBulkEntries entries + 1
  | .held _ => 1
def uptoBulkAll {H : Type} : List (DataW H) → Nat
  | [] => 0
  | d :: r => uptoBulk d + uptoBulkAll r
def uptoBulkEntries {H : Type} : List (Lit × DataW H) → Nat
  | [] => 0
  | x :: r => uptoBulkEntry x + uptoBulkEntries r
def uptoBulkEntry {H : Type} : Lit × DataW H → Nat
  | (.string bytes, d) => bytes.length + uptoBulk d + 1
  | (_, d) => uptoBulk d + 1
 end
def uptoSmall : (H : Type) → List (DataW H) → Bool := fun _ ds => decide (uptoBulkAll ds ≤ 1048576)
def OpenSpec.upto (s : _root_.Go.ChangeSpec) : _root_.Go.OpenSpec := { _root_.Go.OpenSpec.ofChange s with cond := some uptoSmall }

/-- 'laws.FnExactAreStamps', WHERE WHAT IT READS IS OF BULK AT MOST 1048576: true; the input reads as it did. -/
def fnExactAreStampsUptoRow : OpenClaim := { program := "ytmllokooceghiaa", sum := "4a9355f635648f54a8324c0d939be4ebe98d3d3f5c9a586b55c12bd2ca590d1d", func := "loop.example/g01305/laws.FnExactAreStamps", spec := "fnExactAreStamps", apart := false, narrowed := true }
def FnExactAreStampsUptoSaid : Prop := fnExactAreStampsUptoRow.holds Try.pinned (OpenSpec.upto fnExactAreStampsSpec)

/-- 'laws.FnExactCanStamp', WHERE WHAT IT READS IS OF BULK AT MOST 1048576: true; the input reads as it did. -/
def fnExactCanStampUptoRow : OpenClaim := { program := "ytmllokooceghiaa", sum := "4a9355f635648f54a8324c0d939be4ebe98d3d3f5c9a586b55c12bd2ca590d1d", func := "loop.example/g01305/laws.FnExactCanStamp", spec := "fnExactCanStamp", unfollowed := true, recurses := true, apart := false, narrowed := true }
def FnExactCanStampUptoSaid : Prop := fnExactCanStampUptoRow.holds Try.pinned (OpenSpec.upto fnExactCanStampSpec)

/-- 'laws.FnExactReachOf', WHERE WHAT IT READS IS OF BULK AT MOST 1048576: true; the input reads as it did. -/
def fnExactReachOfUptoRow : OpenClaim := { program := "ytmllokooceghiaa", sum := "4a9355f635648f54a8324c0d939be4ebe98d3d3f5c9a586b55c12bd2ca590d1d", func := "loop.example/g01305/laws.FnExactReachOf", spec := "fnExactReachOf", unfollowed := true, recurses := true, apart := false, narrowed := true }
def FnExactReachOfUptoSaid : Prop := fnExactReachOfUptoRow.holds Try.pinned (OpenSpec.upto fnExactReachOfSpec)

/-- 'laws.FnExactFewestStamps', WHERE WHAT IT READS IS OF BULK AT MOST 1048576: true; the input reads as it did. -/
def fnExactFewestStampsUptoRow : OpenClaim := { program := "ytmllokooceghiaa", sum := "4a9355f635648f54a8324c0d939be4ebe98d3d3f5c9a586b55c12bd2ca590d1d", func := "loop.example/g01305/laws.FnExactFewestStamps", spec := "fnExactFewestStamps", unfollowed := true, recurses := true, apart := false, narrowed := true }
def FnExactFewestStampsUptoSaid : Prop := fnExactFewestStampsUptoRow.holds Try.pinned (OpenSpec.upto fnExactFewestStampsSpec)

/-- 'laws.FnExactFirstStamps', WHERE WHAT IT READS IS OF BULK AT MOST 1048576: true; the input reads as it did. -/
def fnExactFirstStampsUptoRow : OpenClaim := { program := "ytmllokooceghiaa", sum := "4a9355f635648f54a8324c0d939be4ebe98d3d3f5c9a586b55c12bd2ca590d1d", func := "loop.example/g01305/laws.FnExactFirstStamps", spec := "fnExactFirstStamps", recurses := true, apart := false, narrowed := true }
def FnExactFirstStampsUptoSaid : Prop := fnExactFirstStampsUptoRow.holds Try.pinned (OpenSpec.upto fnExactFirstStampsSpec)

/-- 'laws.FnExactCountStampWays', WHERE WHAT IT READS IS OF BULK AT MOST 1048576: true; the input reads as it did. -/
def fnExactCountStampWaysUptoRow : OpenClaim := { program := "ytmllokooceghiaa", sum := "4a9355f635648f54a8324c0d939be4ebe98d3d3f5c9a586b55c12bd2ca590d1d", func := "loop.example/g01305/laws.FnExactCountStampWays", spec := "fnExactCountStampWays", recurses := true, apart := false, narrowed := true }
def FnExactCountStampWaysUptoSaid : Prop := fnExactCountStampWaysUptoRow.holds Try.pinned (OpenSpec.upto fnExactCountStampWaysSpec)

/-- 'laws.FnExactValuesOf', WHERE WHAT IT READS IS OF BULK AT MOST 1048576: true; the input reads as it did. -/
def fnExactValuesOfUptoRow : OpenClaim := { program := "ytmllokooceghiaa", sum := "4a9355f635648f54a8324c0d939be4ebe98d3d3f5c9a586b55c12bd2ca590d1d", func := "loop.example/g01305/laws.FnExactValuesOf", spec := "fnExactValuesOf", unfollowed := true, recurses := true, apart := false, narrowed := true }
def FnExactValuesOfUptoSaid : Prop := fnExactValuesOfUptoRow.holds Try.pinned (OpenSpec.upto fnExactValuesOfSpec)

/-- 'laws.FnExactValuesWith', WHERE WHAT IT READS IS OF BULK AT MOST 1048576: true; the input reads as it did. -/
def fnExactValuesWithUptoRow : OpenClaim := { program := "ytmllokooceghiaa", sum := "4a9355f635648f54a8324c0d939be4ebe98d3d3f5c9a586b55c12bd2ca590d1d", func := "loop.example/g01305/laws.FnExactValuesWith", spec := "fnExactValuesWith", unfollowed := true, recurses := true, apart := false, narrowed := true }
def FnExactValuesWithUptoSaid : Prop := fnExactValuesWithUptoRow.holds Try.pinned (OpenSpec.upto fnExactValuesWithSpec)

/-- 'laws.FnExactNextStamp', WHERE WHAT IT READS IS OF BULK AT MOST 1048576: true; the input reads as it did. -/
def fnExactNextStampUptoRow : OpenClaim := { program := "ytmllokooceghiaa", sum := "4a9355f635648f54a8324c0d939be4ebe98d3d3f5c9a586b55c12bd2ca590d1d", func := "loop.example/g01305/laws.FnExactNextStamp", spec := "fnExactNextStamp", unfollowed := true, recurses := true, apart := false, narrowed := true }
def FnExactNextStampUptoSaid : Prop := fnExactNextStampUptoRow.holds Try.pinned (OpenSpec.upto fnExactNextStampSpec)

/-- 'laws.FnExactBestReach', WHERE WHAT IT READS IS OF BULK AT MOST 1048576: true; the input reads as it did. -/
def fnExactBestReachUptoRow : OpenClaim := { program := "ytmllokooceghiaa", sum := "4a9355f635648f54a8324c0d939be4ebe98d3d3f5c9a586b55c12bd2ca590d1d", func := "loop.example/g01305/laws.FnExactBestReach", spec := "fnExactBestReach", unfollowed := true, recurses := true, apart := false, narrowed := true }
def FnExactBestReachUptoSaid : Prop := fnExactBestReachUptoRow.holds Try.pinned (OpenSpec.upto fnExactBestReachSpec)

/-- 'laws.FnExactFirstBest', WHERE WHAT IT READS IS OF BULK AT MOST 1048576: true; the input reads as it did. -/
def fnExactFirstBestUptoRow : OpenClaim := { program := "ytmllokooceghiaa", sum := "4a9355f635648f54a8324c0d939be4ebe98d3d3f5c9a586b55c12bd2ca590d1d", func := "loop.example/g01305/laws.FnExactFirstBest", spec := "fnExactFirstBest", unfollowed := true, recurses := true, apart := false, narrowed := true }
def FnExactFirstBestUptoSaid : Prop := fnExactFirstBestUptoRow.holds Try.pinned (OpenSpec.upto fnExactFirstBestSpec)

/-- 'laws.FnExactCountBest', WHERE WHAT IT READS IS OF BULK AT MOST 1048576: true; the input reads as it did. -/
def fnExactCountBestUptoRow : OpenClaim := { program := "ytmllokooceghiaa", sum := "4a9355f635648f54a8324c0d939be4ebe98d3d3f5c9a586b55c12bd2ca590d1d", func := "loop.example/g01305/laws.FnExactCountBest", spec := "fnExactCountBest", unfollowed := true, recurses := true, apart := false, narrowed := true }
def FnExactCountBestUptoSaid : Prop := fnExactCountBestUptoRow.holds Try.pinned (OpenSpec.upto fnExactCountBestSpec)

/-- 'laws.FnExactNeedlessStamps', WHERE WHAT IT READS IS OF BULK AT MOST 1048576: true; the input reads as it did. -/
def fnExactNeedlessStampsUptoRow : OpenClaim := { program := "ytmllokooceghiaa", sum := "4a9355f635648f54a8324c0d939be4ebe98d3d3f5c9a586b55c12bd2ca590d1d", func := "loop.example/g01305/laws.FnExactNeedlessStamps", spec := "fnExactNeedlessStamps", unfollowed := true, recurses := true, apart := false, narrowed := true }
def FnExactNeedlessStampsUptoSaid : Prop := fnExactNeedlessStampsUptoRow.holds Try.pinned (OpenSpec.upto fnExactNeedlessStampsSpec)

/-- 'laws.FnExactRoomFor', WHERE WHAT IT READS IS OF BULK AT MOST 1048576: true; the input reads as it did. -/
def fnExactRoomForUptoRow : OpenClaim := { program := "ytmllokooceghiaa", sum := "4a9355f635648f54a8324c0d939be4ebe98d3d3f5c9a586b55c12bd2ca590d1d", func := "loop.example/g01305/laws.FnExactRoomFor", spec := "fnExactRoomFor", unfollowed := true, recurses := true, apart := false, narrowed := true }
def FnExactRoomForUptoSaid : Prop := fnExactRoomForUptoRow.holds Try.pinned (OpenSpec.upto fnExactRoomForSpec)

end Rows
end Go.Proofs.Ytmllokooceghiaa
