/-
  No cell of these rows narrows 'for every input' (looked for: loops, veiled, ifaces, maps, wideKeys, modest, calm, conditions, laid).
  DERIVED. THE GIVEN ROWS OF THIS SEAT. 11 by the template 'for every input the law returns true; each argument reads behind the call as it read before'; 0 by the template 'total and deterministic' (their statements: YtillkjkdpkgckaaTotals.lean).
  GIVEN WITH THE SEED: the statements are not yours to turn. If you find one false, say at which input.
  Laid BY PROGRAM, IN A SANDBOX (cutbox-rows.mjs): the forced cells as the released guide's own fill.sh prints them over the translation 74da417f36dea4d5… (all of the seat's roots in one cut). By AI agents, Wed Nov 11 2026. No macro, syntax, notation, axiom, sorry.
-/
import Derived.Test.YtillkjkdpkgckaaChecked
import GoSem.Claim
import GoSem.ClaimJoined
import GoSem.ClaimMapViews
import Derived.JoinedTies
import Derived.KernelRfl
namespace Go.Proofs.Ytillkjkdpkgckaa
/- THE CELL 'sum', in the pinned program and in every row, IS THE sha256 OF THE DUMP (.gsa) THAT YtillkjkdpkgckaaProg.lean LOADS. Nothing in Lean hashes anything: it is a label: what it is worth is what the hold of that sum in a sandbox is worth. -/
noncomputable def Try.pinned : Pinned := { name := "ytillkjkdpkgckaa", sum := "74da417f36dea4d5ff33f266fd4ca147531220eafb648df31120f754fd4d645a", checked := Try.checked }
namespace Rows
def none {H : Type} : Left H := { results := [], args := [] }

/-- 'laws.FnExactAreCuts': WHATEVER THE INPUT: true; the input reads as it did. -/
def fnExactAreCutsSpec : ChangeSpec := { name := "fnExactAreCuts", fn := fun _ => fun
  | [d1, d2] => { results := [.lit (.bool true)], args := [d1, d2] }
  | _ => none }
def fnExactAreCutsRow : OpenClaim := { program := "ytillkjkdpkgckaa", sum := "74da417f36dea4d5ff33f266fd4ca147531220eafb648df31120f754fd4d645a", func := "loop.example/g01305/laws.FnExactAreCuts", spec := "fnExactAreCuts", plainKeys := false, apart := false }
def FnExactAreCutsSaid : Prop := fnExactAreCutsRow.holds Try.pinned (OpenSpec.ofChange fnExactAreCutsSpec)

/-- ITS FALSE NEIGHBOUR: 'it returns false'. Refute it at one input. -/
def fnExactAreCutsWrong : ChangeSpec := { name := "fnExactAreCuts", fn := fun _ => fun
  | [d1, d2] => { results := [.lit (.bool false)], args := [d1, d2] }
  | _ => none }
def FnExactAreCutsWrongFalsely : Prop := fnExactAreCutsRow.holds Try.pinned (OpenSpec.ofChange fnExactAreCutsWrong)

/-- 'laws.FnExactPartsOfCuts': WHATEVER THE INPUT: true; the input reads as it did. -/
def fnExactPartsOfCutsSpec : ChangeSpec := { name := "fnExactPartsOfCuts", fn := fun _ => fun
  | [d1, d2] => { results := [.lit (.bool true)], args := [d1, d2] }
  | _ => none }
def fnExactPartsOfCutsRow : OpenClaim := { program := "ytillkjkdpkgckaa", sum := "74da417f36dea4d5ff33f266fd4ca147531220eafb648df31120f754fd4d645a", func := "loop.example/g01305/laws.FnExactPartsOfCuts", spec := "fnExactPartsOfCuts", plainKeys := false, apart := false }
def FnExactPartsOfCutsSaid : Prop := fnExactPartsOfCutsRow.holds Try.pinned (OpenSpec.ofChange fnExactPartsOfCutsSpec)

/-- ITS FALSE NEIGHBOUR: 'it returns false'. Refute it at one input. -/
def fnExactPartsOfCutsWrong : ChangeSpec := { name := "fnExactPartsOfCuts", fn := fun _ => fun
  | [d1, d2] => { results := [.lit (.bool false)], args := [d1, d2] }
  | _ => none }
def FnExactPartsOfCutsWrongFalsely : Prop := fnExactPartsOfCutsRow.holds Try.pinned (OpenSpec.ofChange fnExactPartsOfCutsWrong)

/-- 'laws.FnExactDoCutsPay': WHATEVER THE INPUT: true; the input reads as it did. -/
def fnExactDoCutsPaySpec : ChangeSpec := { name := "fnExactDoCutsPay", fn := fun _ => fun
  | [d1, d2] => { results := [.lit (.bool true)], args := [d1, d2] }
  | _ => none }
def fnExactDoCutsPayRow : OpenClaim := { program := "ytillkjkdpkgckaa", sum := "74da417f36dea4d5ff33f266fd4ca147531220eafb648df31120f754fd4d645a", func := "loop.example/g01305/laws.FnExactDoCutsPay", spec := "fnExactDoCutsPay", recurses := true, plainKeys := false, apart := false }
def FnExactDoCutsPaySaid : Prop := fnExactDoCutsPayRow.holds Try.pinned (OpenSpec.ofChange fnExactDoCutsPaySpec)

/-- ITS FALSE NEIGHBOUR: 'it returns false'. Refute it at one input. -/
def fnExactDoCutsPayWrong : ChangeSpec := { name := "fnExactDoCutsPay", fn := fun _ => fun
  | [d1, d2] => { results := [.lit (.bool false)], args := [d1, d2] }
  | _ => none }
def FnExactDoCutsPayWrongFalsely : Prop := fnExactDoCutsPayRow.holds Try.pinned (OpenSpec.ofChange fnExactDoCutsPayWrong)

/-- 'laws.FnExactMirrorCuts': WHATEVER THE INPUT: true; the input reads as it did. -/
def fnExactMirrorCutsSpec : ChangeSpec := { name := "fnExactMirrorCuts", fn := fun _ => fun
  | [d1, d2] => { results := [.lit (.bool true)], args := [d1, d2] }
  | _ => none }
def fnExactMirrorCutsRow : OpenClaim := { program := "ytillkjkdpkgckaa", sum := "74da417f36dea4d5ff33f266fd4ca147531220eafb648df31120f754fd4d645a", func := "loop.example/g01305/laws.FnExactMirrorCuts", spec := "fnExactMirrorCuts", unfollowed := true, recurses := true, plainKeys := false, apart := false }
def FnExactMirrorCutsSaid : Prop := fnExactMirrorCutsRow.holds Try.pinned (OpenSpec.ofChange fnExactMirrorCutsSpec)

/-- ITS FALSE NEIGHBOUR: 'it returns false'. Refute it at one input. -/
def fnExactMirrorCutsWrong : ChangeSpec := { name := "fnExactMirrorCuts", fn := fun _ => fun
  | [d1, d2] => { results := [.lit (.bool false)], args := [d1, d2] }
  | _ => none }
def FnExactMirrorCutsWrongFalsely : Prop := fnExactMirrorCutsRow.holds Try.pinned (OpenSpec.ofChange fnExactMirrorCutsWrong)

/-- 'laws.FnExactNeedlessCuts': WHATEVER THE INPUT: true; the input reads as it did. -/
def fnExactNeedlessCutsSpec : ChangeSpec := { name := "fnExactNeedlessCuts", fn := fun _ => fun
  | [d1, d2] => { results := [.lit (.bool true)], args := [d1, d2] }
  | _ => none }
def fnExactNeedlessCutsRow : OpenClaim := { program := "ytillkjkdpkgckaa", sum := "74da417f36dea4d5ff33f266fd4ca147531220eafb648df31120f754fd4d645a", func := "loop.example/g01305/laws.FnExactNeedlessCuts", spec := "fnExactNeedlessCuts", recurses := true, plainKeys := false, apart := false }
def FnExactNeedlessCutsSaid : Prop := fnExactNeedlessCutsRow.holds Try.pinned (OpenSpec.ofChange fnExactNeedlessCutsSpec)

/-- ITS FALSE NEIGHBOUR: 'it returns false'. Refute it at one input. -/
def fnExactNeedlessCutsWrong : ChangeSpec := { name := "fnExactNeedlessCuts", fn := fun _ => fun
  | [d1, d2] => { results := [.lit (.bool false)], args := [d1, d2] }
  | _ => none }
def FnExactNeedlessCutsWrongFalsely : Prop := fnExactNeedlessCutsRow.holds Try.pinned (OpenSpec.ofChange fnExactNeedlessCutsWrong)

/-- 'laws.FnExactIsPlan': WHATEVER THE INPUT: true; the input reads as it did. -/
def fnExactIsPlanSpec : ChangeSpec := { name := "fnExactIsPlan", fn := fun _ => fun
  | [d1, d2] => { results := [.lit (.bool true)], args := [d1, d2] }
  | _ => none }
def fnExactIsPlanRow : OpenClaim := { program := "ytillkjkdpkgckaa", sum := "74da417f36dea4d5ff33f266fd4ca147531220eafb648df31120f754fd4d645a", func := "loop.example/g01305/laws.FnExactIsPlan", spec := "fnExactIsPlan", plainKeys := false, apart := false }
def FnExactIsPlanSaid : Prop := fnExactIsPlanRow.holds Try.pinned (OpenSpec.ofChange fnExactIsPlanSpec)

/-- ITS FALSE NEIGHBOUR: 'it returns false'. Refute it at one input. -/
def fnExactIsPlanWrong : ChangeSpec := { name := "fnExactIsPlan", fn := fun _ => fun
  | [d1, d2] => { results := [.lit (.bool false)], args := [d1, d2] }
  | _ => none }
def FnExactIsPlanWrongFalsely : Prop := fnExactIsPlanRow.holds Try.pinned (OpenSpec.ofChange fnExactIsPlanWrong)

/-- 'laws.FnExactHeldAt': WHATEVER THE INPUT: true; the input reads as it did. -/
def fnExactHeldAtSpec : ChangeSpec := { name := "fnExactHeldAt", fn := fun _ => fun
  | [d1, d2, d3] => { results := [.lit (.bool true)], args := [d1, d2, d3] }
  | _ => none }
def fnExactHeldAtRow : OpenClaim := { program := "ytillkjkdpkgckaa", sum := "74da417f36dea4d5ff33f266fd4ca147531220eafb648df31120f754fd4d645a", func := "loop.example/g01305/laws.FnExactHeldAt", spec := "fnExactHeldAt", plainKeys := false, apart := false }
def FnExactHeldAtSaid : Prop := fnExactHeldAtRow.holds Try.pinned (OpenSpec.ofChange fnExactHeldAtSpec)

/-- ITS FALSE NEIGHBOUR: 'it returns false'. Refute it at one input. -/
def fnExactHeldAtWrong : ChangeSpec := { name := "fnExactHeldAt", fn := fun _ => fun
  | [d1, d2, d3] => { results := [.lit (.bool false)], args := [d1, d2, d3] }
  | _ => none }
def FnExactHeldAtWrongFalsely : Prop := fnExactHeldAtRow.holds Try.pinned (OpenSpec.ofChange fnExactHeldAtWrong)

/-- 'laws.FnExactMovesOfPlan': WHATEVER THE INPUT: true; the input reads as it did. -/
def fnExactMovesOfPlanSpec : ChangeSpec := { name := "fnExactMovesOfPlan", fn := fun _ => fun
  | [d1, d2] => { results := [.lit (.bool true)], args := [d1, d2] }
  | _ => none }
def fnExactMovesOfPlanRow : OpenClaim := { program := "ytillkjkdpkgckaa", sum := "74da417f36dea4d5ff33f266fd4ca147531220eafb648df31120f754fd4d645a", func := "loop.example/g01305/laws.FnExactMovesOfPlan", spec := "fnExactMovesOfPlan", plainKeys := false, apart := false }
def FnExactMovesOfPlanSaid : Prop := fnExactMovesOfPlanRow.holds Try.pinned (OpenSpec.ofChange fnExactMovesOfPlanSpec)

/-- ITS FALSE NEIGHBOUR: 'it returns false'. Refute it at one input. -/
def fnExactMovesOfPlanWrong : ChangeSpec := { name := "fnExactMovesOfPlan", fn := fun _ => fun
  | [d1, d2] => { results := [.lit (.bool false)], args := [d1, d2] }
  | _ => none }
def FnExactMovesOfPlanWrongFalsely : Prop := fnExactMovesOfPlanRow.holds Try.pinned (OpenSpec.ofChange fnExactMovesOfPlanWrong)

/-- 'laws.FnExactGivenAt': WHATEVER THE INPUT: true; the input reads as it did. -/
def fnExactGivenAtSpec : ChangeSpec := { name := "fnExactGivenAt", fn := fun _ => fun
  | [d1, d2, d3] => { results := [.lit (.bool true)], args := [d1, d2, d3] }
  | _ => none }
def fnExactGivenAtRow : OpenClaim := { program := "ytillkjkdpkgckaa", sum := "74da417f36dea4d5ff33f266fd4ca147531220eafb648df31120f754fd4d645a", func := "loop.example/g01305/laws.FnExactGivenAt", spec := "fnExactGivenAt", plainKeys := false, apart := false }
def FnExactGivenAtSaid : Prop := fnExactGivenAtRow.holds Try.pinned (OpenSpec.ofChange fnExactGivenAtSpec)

/-- ITS FALSE NEIGHBOUR: 'it returns false'. Refute it at one input. -/
def fnExactGivenAtWrong : ChangeSpec := { name := "fnExactGivenAt", fn := fun _ => fun
  | [d1, d2, d3] => { results := [.lit (.bool false)], args := [d1, d2, d3] }
  | _ => none }
def FnExactGivenAtWrongFalsely : Prop := fnExactGivenAtRow.holds Try.pinned (OpenSpec.ofChange fnExactGivenAtWrong)

/-- 'laws.FnExactTakenAt': WHATEVER THE INPUT: true; the input reads as it did. -/
def fnExactTakenAtSpec : ChangeSpec := { name := "fnExactTakenAt", fn := fun _ => fun
  | [d1, d2, d3] => { results := [.lit (.bool true)], args := [d1, d2, d3] }
  | _ => none }
def fnExactTakenAtRow : OpenClaim := { program := "ytillkjkdpkgckaa", sum := "74da417f36dea4d5ff33f266fd4ca147531220eafb648df31120f754fd4d645a", func := "loop.example/g01305/laws.FnExactTakenAt", spec := "fnExactTakenAt", plainKeys := false, apart := false }
def FnExactTakenAtSaid : Prop := fnExactTakenAtRow.holds Try.pinned (OpenSpec.ofChange fnExactTakenAtSpec)

/-- ITS FALSE NEIGHBOUR: 'it returns false'. Refute it at one input. -/
def fnExactTakenAtWrong : ChangeSpec := { name := "fnExactTakenAt", fn := fun _ => fun
  | [d1, d2, d3] => { results := [.lit (.bool false)], args := [d1, d2, d3] }
  | _ => none }
def FnExactTakenAtWrongFalsely : Prop := fnExactTakenAtRow.holds Try.pinned (OpenSpec.ofChange fnExactTakenAtWrong)

/-- 'laws.FnExactMovesOnDay': WHATEVER THE INPUT: true; the input reads as it did. -/
def fnExactMovesOnDaySpec : ChangeSpec := { name := "fnExactMovesOnDay", fn := fun _ => fun
  | [d1, d2, d3] => { results := [.lit (.bool true)], args := [d1, d2, d3] }
  | _ => none }
def fnExactMovesOnDayRow : OpenClaim := { program := "ytillkjkdpkgckaa", sum := "74da417f36dea4d5ff33f266fd4ca147531220eafb648df31120f754fd4d645a", func := "loop.example/g01305/laws.FnExactMovesOnDay", spec := "fnExactMovesOnDay", plainKeys := false, apart := false }
def FnExactMovesOnDaySaid : Prop := fnExactMovesOnDayRow.holds Try.pinned (OpenSpec.ofChange fnExactMovesOnDaySpec)

/-- ITS FALSE NEIGHBOUR: 'it returns false'. Refute it at one input. -/
def fnExactMovesOnDayWrong : ChangeSpec := { name := "fnExactMovesOnDay", fn := fun _ => fun
  | [d1, d2, d3] => { results := [.lit (.bool false)], args := [d1, d2, d3] }
  | _ => none }
def FnExactMovesOnDayWrongFalsely : Prop := fnExactMovesOnDayRow.holds Try.pinned (OpenSpec.ofChange fnExactMovesOnDayWrong)

/- THE SECOND FORM. 'bulk': how many values and letters a reading holds, each counted each time it is reached (what is shared counts as often as it is met; a slice's spare places count too). A statement '..UptoSaid' is the law's where the arguments, and the package variables that the reading takes, are together of bulk at most 1048576: NARROWER than '..Said'. Prove '..Said' where nothing that the law and all that it calls make is longer than what came in: it says more and counts as full. Else prove '..UptoSaid'. A law counts once. -/
mutual
def uptoBulk {H : Type} : DataW H → Nat
  | .lit (.string bytes) => bytes.length + 1
  | .lit _ => 1
  | .nil => 1
  | .ptr d => uptoBulk d + 1
  | .slice elems spare => uptoBulkAll elems + uptoBulkAll spare + 1
  | .agg parts => uptoBulkAll parts + 1
  | .iface _ d => uptoBulk d + 1
  | .map entries => uptoBulkEntries entries + 1
  | .held _ => 1
def uptoBulkAll {H : Type} : List (DataW H) → Nat
  | [] => 0
  | d :: r => uptoBulk d + uptoBulkAll r
def uptoBulkEntries {H : Type} : List (Lit × DataW H) → Nat
  | [] => 0
  | x :: r => uptoBulkEntry x + uptoBulkEntries r
def uptoBulkEntry {H : Type} : Lit × DataW H → Nat
  | (.string bytes, d) => bytes.length + uptoBulk d + 1
  | (_, d) => uptoBulk d + 1
 end
def uptoSmall : (H : Type) → List (DataW H) → Bool := fun _ ds => decide (uptoBulkAll ds ≤ 1048576)
def OpenSpec.upto (s : _root_.Go.ChangeSpec) : _root_.Go.OpenSpec := { _root_.Go.OpenSpec.ofChange s with cond := some uptoSmall }

/-- 'laws.FnExactAreCuts', WHERE WHAT IT READS IS OF BULK AT MOST 1048576: true; the input reads as it did. -/
def fnExactAreCutsUptoRow : OpenClaim := { program := "ytillkjkdpkgckaa", sum := "74da417f36dea4d5ff33f266fd4ca147531220eafb648df31120f754fd4d645a", func := "loop.example/g01305/laws.FnExactAreCuts", spec := "fnExactAreCuts", plainKeys := false, apart := false, narrowed := true }
def FnExactAreCutsUptoSaid : Prop := fnExactAreCutsUptoRow.holds Try.pinned (OpenSpec.upto fnExactAreCutsSpec)

/-- 'laws.FnExactPartsOfCuts', WHERE WHAT IT READS IS OF BULK AT MOST 1048576: true; the input reads as it did. -/
def fnExactPartsOfCutsUptoRow : OpenClaim := { program := "ytillkjkdpkgckaa", sum := "74da417f36dea4d5ff33f266fd4ca147531220eafb648df31120f754fd4d645a", func := "loop.example/g01305/laws.FnExactPartsOfCuts", spec := "fnExactPartsOfCuts", plainKeys := false, apart := false, narrowed := true }
def FnExactPartsOfCutsUptoSaid : Prop := fnExactPartsOfCutsUptoRow.holds Try.pinned (OpenSpec.upto fnExactPartsOfCutsSpec)

/-- 'laws.FnExactDoCutsPay', WHERE WHAT IT READS IS OF BULK AT MOST 1048576: true; the input reads as it did. -/
def fnExactDoCutsPayUptoRow : OpenClaim := { program := "ytillkjkdpkgckaa", sum := "74da417f36dea4d5ff33f266fd4ca147531220eafb648df31120f754fd4d645a", func := "loop.example/g01305/laws.FnExactDoCutsPay", spec := "fnExactDoCutsPay", recurses := true, plainKeys := false, apart := false, narrowed := true }
def FnExactDoCutsPayUptoSaid : Prop := fnExactDoCutsPayUptoRow.holds Try.pinned (OpenSpec.upto fnExactDoCutsPaySpec)

/-- 'laws.FnExactMirrorCuts', WHERE WHAT IT READS IS OF BULK AT MOST 1048576: true; the input reads as it did. -/
def fnExactMirrorCutsUptoRow : OpenClaim := { program := "ytillkjkdpkgckaa", sum := "74da417f36dea4d5ff33f266fd4ca147531220eafb648df31120f754fd4d645a", func := "loop.example/g01305/laws.FnExactMirrorCuts", spec := "fnExactMirrorCuts", unfollowed := true, recurses := true, plainKeys := false, apart := false, narrowed := true }
def FnExactMirrorCutsUptoSaid : Prop := fnExactMirrorCutsUptoRow.holds Try.pinned (OpenSpec.upto fnExactMirrorCutsSpec)

/-- 'laws.FnExactNeedlessCuts', WHERE WHAT IT READS IS OF BULK AT MOST 1048576: true; the input reads as it did. -/
def fnExactNeedlessCutsUptoRow : OpenClaim := { program := "ytillkjkdpkgckaa", sum := "74da417f36dea4d5ff33f266fd4ca147531220eafb648df31120f754fd4d645a", func := "loop.example/g01305/laws.FnExactNeedlessCuts", spec := "fnExactNeedlessCuts", recurses := true, plainKeys := false, apart := false, narrowed := true }
def FnExactNeedlessCutsUptoSaid : Prop := fnExactNeedlessCutsUptoRow.holds Try.pinned (OpenSpec.upto fnExactNeedlessCutsSpec)

/-- 'laws.FnExactIsPlan', WHERE WHAT IT READS IS OF BULK AT MOST 1048576: true; the input reads as it did. -/
def fnExactIsPlanUptoRow : OpenClaim := { program := "ytillkjkdpkgckaa", sum := "74da417f36dea4d5ff33f266fd4ca147531220eafb648df31120f754fd4d645a", func := "loop.example/g01305/laws.FnExactIsPlan", spec := "fnExactIsPlan", plainKeys := false, apart := false, narrowed := true }
def FnExactIsPlanUptoSaid : Prop := fnExactIsPlanUptoRow.holds Try.pinned (OpenSpec.upto fnExactIsPlanSpec)

/-- 'laws.FnExactHeldAt', WHERE WHAT IT READS IS OF BULK AT MOST 1048576: true; the input reads as it did. -/
def fnExactHeldAtUptoRow : OpenClaim := { program := "ytillkjkdpkgckaa", sum := "74da417f36dea4d5ff33f266fd4ca147531220eafb648df31120f754fd4d645a", func := "loop.example/g01305/laws.FnExactHeldAt", spec := "fnExactHeldAt", plainKeys := false, apart := false, narrowed := true }
def FnExactHeldAtUptoSaid : Prop := fnExactHeldAtUptoRow.holds Try.pinned (OpenSpec.upto fnExactHeldAtSpec)

/-- 'laws.FnExactMovesOfPlan', WHERE WHAT IT READS IS OF BULK AT MOST 1048576: true; the input reads as it did. -/
def fnExactMovesOfPlanUptoRow : OpenClaim := { program := "ytillkjkdpkgckaa", sum := "74da417f36dea4d5ff33f266fd4ca147531220eafb648df31120f754fd4d645a", func := "loop.example/g01305/laws.FnExactMovesOfPlan", spec := "fnExactMovesOfPlan", plainKeys := false, apart := false, narrowed := true }
def FnExactMovesOfPlanUptoSaid : Prop := fnExactMovesOfPlanUptoRow.holds Try.pinned (OpenSpec.upto fnExactMovesOfPlanSpec)

/-- 'laws.FnExactGivenAt', WHERE WHAT IT READS IS OF BULK AT MOST 1048576: true; the input reads as it did. -/
def fnExactGivenAtUptoRow : OpenClaim := { program := "ytillkjkdpkgckaa", sum := "74da417f36dea4d5ff33f266fd4ca147531220eafb648df31120f754fd4d645a", func := "loop.example/g01305/laws.FnExactGivenAt", spec := "fnExactGivenAt", plainKeys := false, apart := false, narrowed := true }
def FnExactGivenAtUptoSaid : Prop := fnExactGivenAtUptoRow.holds Try.pinned (OpenSpec.upto fnExactGivenAtSpec)

/-- 'laws.FnExactTakenAt', WHERE WHAT IT READS IS OF BULK AT MOST 1048576: true; the input reads as it did. -/
def fnExactTakenAtUptoRow : OpenClaim := { program := "ytillkjkdpkgckaa", sum := "74da417f36dea4d5ff33f266fd4ca147531220eafb648df31120f754fd4d645a", func := "loop.example/g01305/laws.FnExactTakenAt", spec := "fnExactTakenAt", plainKeys := false, apart := false, narrowed := true }
def FnExactTakenAtUptoSaid : Prop := fnExactTakenAtUptoRow.holds Try.pinned (OpenSpec.upto fnExactTakenAtSpec)

/-- 'laws.FnExactMovesOnDay', WHERE WHAT IT READS IS OF BULK AT MOST 1048576: true; the input reads as it did. -/
def fnExactMovesOnDayUptoRow : OpenClaim := { program := "ytillkjkdpkgckaa", sum := "74da417f36dea4d5ff33f266fd4ca147531220eafb648df31120f754fd4d645a", func := "loop.example/g01305/laws.FnExactMovesOnDay", spec := "fnExactMovesOnDay", plainKeys := false, apart := false, narrowed := true }
def FnExactMovesOnDayUptoSaid : Prop := fnExactMovesOnDayUptoRow.holds Try.pinned (OpenSpec.upto fnExactMovesOnDaySpec)

end Rows
end Go.Proofs.Ytillkjkdpkgckaa
