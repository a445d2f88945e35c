/-
  No cell of these rows narrows 'for every input' (looked for: loops, veiled, ifaces, maps, wideKeys, modest, calm, conditions, laid).
  DERIVED. THE GIVEN ROWS OF THIS SEAT. 16 by the template 'for every input the law returns true; each argument reads behind the call as it read before'; 0 by the template 'total and deterministic' (their statements: YtcgifmoddojnmaaTotals.lean).
  GIVEN WITH THE SEED: the statements are not yours to turn. If you find one false, say at which input.
  Laid BY PROGRAM, IN A SANDBOX (cutbox-rows.mjs): the forced cells as the released guide's own fill.sh prints them over the translation b0daff0b637bf514… (all of the seat's roots in one cut). By AI agents, Wed Nov 11 2026. No macro, syntax, notation, axiom, sorry.
-/
import Derived.Test.YtcgifmoddojnmaaChecked
import GoSem.Claim
import GoSem.ClaimJoined
import GoSem.ClaimMapViews
import Derived.JoinedTies
import Derived.KernelRfl
namespace Go.Proofs.Ytcgifmoddojnmaa
/- THE CELL 'sum', in the pinned program and in every row, IS THE sha256 OF THE DUMP (.gsa) THAT YtcgifmoddojnmaaProg.lean LOADS. Nothing in Lean hashes anything: it is a label: what it is worth is what the hold of that sum in a sandbox is worth. -/
noncomputable def Try.pinned : Pinned := { name := "ytcgifmoddojnmaa", sum := "b0daff0b637bf514e46e5dede245053c49994f4923a66a3fe4137266dbead868", checked := Try.checked }
namespace Rows
def none {H : Type} : Left H := { results := [], args := [] }

/-- 'laws.FnExactCanBalance': WHATEVER THE INPUT: true; the input reads as it did. -/
def fnExactCanBalanceSpec : ChangeSpec := { name := "fnExactCanBalance", fn := fun _ => fun
  | [d1, d2] => { results := [.lit (.bool true)], args := [d1, d2] }
  | _ => none }
def fnExactCanBalanceRow : OpenClaim := { program := "ytcgifmoddojnmaa", sum := "b0daff0b637bf514e46e5dede245053c49994f4923a66a3fe4137266dbead868", func := "loop.example/g01305/laws.FnExactCanBalance", spec := "fnExactCanBalance", unfollowed := true, recurses := true, apart := false }
def FnExactCanBalanceSaid : Prop := fnExactCanBalanceRow.holds Try.pinned (OpenSpec.ofChange fnExactCanBalanceSpec)

/-- ITS FALSE NEIGHBOUR: 'it returns false'. Refute it at one input. -/
def fnExactCanBalanceWrong : ChangeSpec := { name := "fnExactCanBalance", fn := fun _ => fun
  | [d1, d2] => { results := [.lit (.bool false)], args := [d1, d2] }
  | _ => none }
def FnExactCanBalanceWrongFalsely : Prop := fnExactCanBalanceRow.holds Try.pinned (OpenSpec.ofChange fnExactCanBalanceWrong)

/-- 'laws.FnExactWaysBoth': WHATEVER THE INPUT: true; the input reads as it did. -/
def fnExactWaysBothSpec : ChangeSpec := { name := "fnExactWaysBoth", fn := fun _ => fun
  | [d1, d2] => { results := [.lit (.bool true)], args := [d1, d2] }
  | _ => none }
def fnExactWaysBothRow : OpenClaim := { program := "ytcgifmoddojnmaa", sum := "b0daff0b637bf514e46e5dede245053c49994f4923a66a3fe4137266dbead868", func := "loop.example/g01305/laws.FnExactWaysBoth", spec := "fnExactWaysBoth", unfollowed := true, recurses := true, apart := false }
def FnExactWaysBothSaid : Prop := fnExactWaysBothRow.holds Try.pinned (OpenSpec.ofChange fnExactWaysBothSpec)

/-- ITS FALSE NEIGHBOUR: 'it returns false'. Refute it at one input. -/
def fnExactWaysBothWrong : ChangeSpec := { name := "fnExactWaysBoth", fn := fun _ => fun
  | [d1, d2] => { results := [.lit (.bool false)], args := [d1, d2] }
  | _ => none }
def FnExactWaysBothWrongFalsely : Prop := fnExactWaysBothRow.holds Try.pinned (OpenSpec.ofChange fnExactWaysBothWrong)

/-- 'laws.FnExactFirstBoth': WHATEVER THE INPUT: true; the input reads as it did. -/
def fnExactFirstBothSpec : ChangeSpec := { name := "fnExactFirstBoth", fn := fun _ => fun
  | [d1, d2] => { results := [.lit (.bool true)], args := [d1, d2] }
  | _ => none }
def fnExactFirstBothRow : OpenClaim := { program := "ytcgifmoddojnmaa", sum := "b0daff0b637bf514e46e5dede245053c49994f4923a66a3fe4137266dbead868", func := "loop.example/g01305/laws.FnExactFirstBoth", spec := "fnExactFirstBoth", unfollowed := true, recurses := true, apart := false }
def FnExactFirstBothSaid : Prop := fnExactFirstBothRow.holds Try.pinned (OpenSpec.ofChange fnExactFirstBothSpec)

/-- ITS FALSE NEIGHBOUR: 'it returns false'. Refute it at one input. -/
def fnExactFirstBothWrong : ChangeSpec := { name := "fnExactFirstBoth", fn := fun _ => fun
  | [d1, d2] => { results := [.lit (.bool false)], args := [d1, d2] }
  | _ => none }
def FnExactFirstBothWrongFalsely : Prop := fnExactFirstBothRow.holds Try.pinned (OpenSpec.ofChange fnExactFirstBothWrong)

/-- 'laws.FnExactFewestBoth': WHATEVER THE INPUT: true; the input reads as it did. -/
def fnExactFewestBothSpec : ChangeSpec := { name := "fnExactFewestBoth", fn := fun _ => fun
  | [d1, d2] => { results := [.lit (.bool true)], args := [d1, d2] }
  | _ => none }
def fnExactFewestBothRow : OpenClaim := { program := "ytcgifmoddojnmaa", sum := "b0daff0b637bf514e46e5dede245053c49994f4923a66a3fe4137266dbead868", func := "loop.example/g01305/laws.FnExactFewestBoth", spec := "fnExactFewestBoth", unfollowed := true, recurses := true, apart := false }
def FnExactFewestBothSaid : Prop := fnExactFewestBothRow.holds Try.pinned (OpenSpec.ofChange fnExactFewestBothSpec)

/-- ITS FALSE NEIGHBOUR: 'it returns false'. Refute it at one input. -/
def fnExactFewestBothWrong : ChangeSpec := { name := "fnExactFewestBoth", fn := fun _ => fun
  | [d1, d2] => { results := [.lit (.bool false)], args := [d1, d2] }
  | _ => none }
def FnExactFewestBothWrongFalsely : Prop := fnExactFewestBothRow.holds Try.pinned (OpenSpec.ofChange fnExactFewestBothWrong)

/-- 'laws.FnExactValueOfSigns': WHATEVER THE INPUT: true; the input reads as it did. -/
def fnExactValueOfSignsSpec : ChangeSpec := { name := "fnExactValueOfSigns", fn := fun _ => fun
  | [d1, d2] => { results := [.lit (.bool true)], args := [d1, d2] }
  | _ => none }
def fnExactValueOfSignsRow : OpenClaim := { program := "ytcgifmoddojnmaa", sum := "b0daff0b637bf514e46e5dede245053c49994f4923a66a3fe4137266dbead868", func := "loop.example/g01305/laws.FnExactValueOfSigns", spec := "fnExactValueOfSigns", inPlace := ["internal/bytealg.IndexByteString", "internal/bytealg.IndexString"], named := ["internal/bytealg.MaxLen"], apart := false }
def FnExactValueOfSignsSaid : Prop := fnExactValueOfSignsRow.holds Try.pinned (OpenSpec.ofChange fnExactValueOfSignsSpec)

/-- ITS FALSE NEIGHBOUR: 'it returns false'. Refute it at one input. -/
def fnExactValueOfSignsWrong : ChangeSpec := { name := "fnExactValueOfSigns", fn := fun _ => fun
  | [d1, d2] => { results := [.lit (.bool false)], args := [d1, d2] }
  | _ => none }
def FnExactValueOfSignsWrongFalsely : Prop := fnExactValueOfSignsRow.holds Try.pinned (OpenSpec.ofChange fnExactValueOfSignsWrong)

/-- 'laws.FnExactOtherSigns': WHATEVER THE INPUT: true; the input reads as it did. -/
def fnExactOtherSignsSpec : ChangeSpec := { name := "fnExactOtherSigns", fn := fun _ => fun
  | [d1, d2] => { results := [.lit (.bool true)], args := [d1, d2] }
  | _ => none }
def fnExactOtherSignsRow : OpenClaim := { program := "ytcgifmoddojnmaa", sum := "b0daff0b637bf514e46e5dede245053c49994f4923a66a3fe4137266dbead868", func := "loop.example/g01305/laws.FnExactOtherSigns", spec := "fnExactOtherSigns", inPlace := ["internal/bytealg.IndexByteString", "internal/bytealg.IndexString"], named := ["internal/bytealg.MaxLen"], apart := false }
def FnExactOtherSignsSaid : Prop := fnExactOtherSignsRow.holds Try.pinned (OpenSpec.ofChange fnExactOtherSignsSpec)

/-- ITS FALSE NEIGHBOUR: 'it returns false'. Refute it at one input. -/
def fnExactOtherSignsWrong : ChangeSpec := { name := "fnExactOtherSigns", fn := fun _ => fun
  | [d1, d2] => { results := [.lit (.bool false)], args := [d1, d2] }
  | _ => none }
def FnExactOtherSignsWrongFalsely : Prop := fnExactOtherSignsRow.holds Try.pinned (OpenSpec.ofChange fnExactOtherSignsWrong)

/-- 'laws.FnExactRunBoth': WHATEVER THE INPUT: true; the input reads as it did. -/
def fnExactRunBothSpec : ChangeSpec := { name := "fnExactRunBoth", fn := fun _ => fun
  | [d] => { results := [.lit (.bool true)], args := [d] }
  | _ => none }
def fnExactRunBothRow : OpenClaim := { program := "ytcgifmoddojnmaa", sum := "b0daff0b637bf514e46e5dede245053c49994f4923a66a3fe4137266dbead868", func := "loop.example/g01305/laws.FnExactRunBoth", spec := "fnExactRunBoth", unfollowed := true, recurses := true, apart := false }
def FnExactRunBothSaid : Prop := fnExactRunBothRow.holds Try.pinned (OpenSpec.ofChange fnExactRunBothSpec)

/-- ITS FALSE NEIGHBOUR: 'it returns false'. Refute it at one input. -/
def fnExactRunBothWrong : ChangeSpec := { name := "fnExactRunBoth", fn := fun _ => fun
  | [d] => { results := [.lit (.bool false)], args := [d] }
  | _ => none }
def FnExactRunBothWrongFalsely : Prop := fnExactRunBothRow.holds Try.pinned (OpenSpec.ofChange fnExactRunBothWrong)

/-- 'laws.FnExactGapsBoth': WHATEVER THE INPUT: true; the input reads as it did. -/
def fnExactGapsBothSpec : ChangeSpec := { name := "fnExactGapsBoth", fn := fun _ => fun
  | [d] => { results := [.lit (.bool true)], args := [d] }
  | _ => none }
def fnExactGapsBothRow : OpenClaim := { program := "ytcgifmoddojnmaa", sum := "b0daff0b637bf514e46e5dede245053c49994f4923a66a3fe4137266dbead868", func := "loop.example/g01305/laws.FnExactGapsBoth", spec := "fnExactGapsBoth", unfollowed := true, recurses := true, apart := false }
def FnExactGapsBothSaid : Prop := fnExactGapsBothRow.holds Try.pinned (OpenSpec.ofChange fnExactGapsBothSpec)

/-- ITS FALSE NEIGHBOUR: 'it returns false'. Refute it at one input. -/
def fnExactGapsBothWrong : ChangeSpec := { name := "fnExactGapsBoth", fn := fun _ => fun
  | [d] => { results := [.lit (.bool false)], args := [d] }
  | _ => none }
def FnExactGapsBothWrongFalsely : Prop := fnExactGapsBothRow.holds Try.pinned (OpenSpec.ofChange fnExactGapsBothWrong)

/-- 'laws.FnExactCountBoth': WHATEVER THE INPUT: true; the input reads as it did. -/
def fnExactCountBothSpec : ChangeSpec := { name := "fnExactCountBoth", fn := fun _ => fun
  | [d] => { results := [.lit (.bool true)], args := [d] }
  | _ => none }
def fnExactCountBothRow : OpenClaim := { program := "ytcgifmoddojnmaa", sum := "b0daff0b637bf514e46e5dede245053c49994f4923a66a3fe4137266dbead868", func := "loop.example/g01305/laws.FnExactCountBoth", spec := "fnExactCountBoth", unfollowed := true, recurses := true, apart := false }
def FnExactCountBothSaid : Prop := fnExactCountBothRow.holds Try.pinned (OpenSpec.ofChange fnExactCountBothSpec)

/-- ITS FALSE NEIGHBOUR: 'it returns false'. Refute it at one input. -/
def fnExactCountBothWrong : ChangeSpec := { name := "fnExactCountBoth", fn := fun _ => fun
  | [d] => { results := [.lit (.bool false)], args := [d] }
  | _ => none }
def FnExactCountBothWrongFalsely : Prop := fnExactCountBothRow.holds Try.pinned (OpenSpec.ofChange fnExactCountBothWrong)

/-- 'laws.FnExactBestBoth': WHATEVER THE INPUT: true; the input reads as it did. -/
def fnExactBestBothSpec : ChangeSpec := { name := "fnExactBestBoth", fn := fun _ => fun
  | [d] => { results := [.lit (.bool true)], args := [d] }
  | _ => none }
def fnExactBestBothRow : OpenClaim := { program := "ytcgifmoddojnmaa", sum := "b0daff0b637bf514e46e5dede245053c49994f4923a66a3fe4137266dbead868", func := "loop.example/g01305/laws.FnExactBestBoth", spec := "fnExactBestBoth", unfollowed := true, recurses := true, apart := false }
def FnExactBestBothSaid : Prop := fnExactBestBothRow.holds Try.pinned (OpenSpec.ofChange fnExactBestBothSpec)

/-- ITS FALSE NEIGHBOUR: 'it returns false'. Refute it at one input. -/
def fnExactBestBothWrong : ChangeSpec := { name := "fnExactBestBoth", fn := fun _ => fun
  | [d] => { results := [.lit (.bool false)], args := [d] }
  | _ => none }
def FnExactBestBothWrongFalsely : Prop := fnExactBestBothRow.holds Try.pinned (OpenSpec.ofChange fnExactBestBothWrong)

/-- 'laws.FnExactPiecesForRun': WHATEVER THE INPUT: true; the input reads as it did. -/
def fnExactPiecesForRunSpec : ChangeSpec := { name := "fnExactPiecesForRun", fn := fun _ => fun
  | [d] => { results := [.lit (.bool true)], args := [d] }
  | _ => none }
def fnExactPiecesForRunRow : OpenClaim := { program := "ytcgifmoddojnmaa", sum := "b0daff0b637bf514e46e5dede245053c49994f4923a66a3fe4137266dbead868", func := "loop.example/g01305/laws.FnExactPiecesForRun", spec := "fnExactPiecesForRun", apart := false }
def FnExactPiecesForRunSaid : Prop := fnExactPiecesForRunRow.holds Try.pinned (OpenSpec.ofChange fnExactPiecesForRunSpec)

/-- ITS FALSE NEIGHBOUR: 'it returns false'. Refute it at one input. -/
def fnExactPiecesForRunWrong : ChangeSpec := { name := "fnExactPiecesForRun", fn := fun _ => fun
  | [d] => { results := [.lit (.bool false)], args := [d] }
  | _ => none }
def FnExactPiecesForRunWrongFalsely : Prop := fnExactPiecesForRunRow.holds Try.pinned (OpenSpec.ofChange fnExactPiecesForRunWrong)

/-- 'laws.FnExactBalancedOf': WHATEVER THE INPUT: true; the input reads as it did. -/
def fnExactBalancedOfSpec : ChangeSpec := { name := "fnExactBalancedOf", fn := fun _ => fun
  | [d] => { results := [.lit (.bool true)], args := [d] }
  | _ => none }
def fnExactBalancedOfRow : OpenClaim := { program := "ytcgifmoddojnmaa", sum := "b0daff0b637bf514e46e5dede245053c49994f4923a66a3fe4137266dbead868", func := "loop.example/g01305/laws.FnExactBalancedOf", spec := "fnExactBalancedOf", unfollowed := true, recurses := true, apart := false }
def FnExactBalancedOfSaid : Prop := fnExactBalancedOfRow.holds Try.pinned (OpenSpec.ofChange fnExactBalancedOfSpec)

/-- ITS FALSE NEIGHBOUR: 'it returns false'. Refute it at one input. -/
def fnExactBalancedOfWrong : ChangeSpec := { name := "fnExactBalancedOf", fn := fun _ => fun
  | [d] => { results := [.lit (.bool false)], args := [d] }
  | _ => none }
def FnExactBalancedOfWrongFalsely : Prop := fnExactBalancedOfRow.holds Try.pinned (OpenSpec.ofChange fnExactBalancedOfWrong)

/-- 'laws.FnExactNumberOfSigns': WHATEVER THE INPUT: true; the input reads as it did. -/
def fnExactNumberOfSignsSpec : ChangeSpec := { name := "fnExactNumberOfSigns", fn := fun _ => fun
  | [d] => { results := [.lit (.bool true)], args := [d] }
  | _ => none }
def fnExactNumberOfSignsRow : OpenClaim := { program := "ytcgifmoddojnmaa", sum := "b0daff0b637bf514e46e5dede245053c49994f4923a66a3fe4137266dbead868", func := "loop.example/g01305/laws.FnExactNumberOfSigns", spec := "fnExactNumberOfSigns", inPlace := ["internal/bytealg.IndexByteString", "internal/bytealg.IndexString"], unfollowed := true, recurses := true, named := ["internal/bytealg.MaxLen"], apart := false }
def FnExactNumberOfSignsSaid : Prop := fnExactNumberOfSignsRow.holds Try.pinned (OpenSpec.ofChange fnExactNumberOfSignsSpec)

/-- ITS FALSE NEIGHBOUR: 'it returns false'. Refute it at one input. -/
def fnExactNumberOfSignsWrong : ChangeSpec := { name := "fnExactNumberOfSigns", fn := fun _ => fun
  | [d] => { results := [.lit (.bool false)], args := [d] }
  | _ => none }
def FnExactNumberOfSignsWrongFalsely : Prop := fnExactNumberOfSignsRow.holds Try.pinned (OpenSpec.ofChange fnExactNumberOfSignsWrong)

/-- 'laws.FnExactAddSigns': WHATEVER THE INPUT: true; the input reads as it did. -/
def fnExactAddSignsSpec : ChangeSpec := { name := "fnExactAddSigns", fn := fun _ => fun
  | [d1, d2] => { results := [.lit (.bool true)], args := [d1, d2] }
  | _ => none }
def fnExactAddSignsRow : OpenClaim := { program := "ytcgifmoddojnmaa", sum := "b0daff0b637bf514e46e5dede245053c49994f4923a66a3fe4137266dbead868", func := "loop.example/g01305/laws.FnExactAddSigns", spec := "fnExactAddSigns", inPlace := ["internal/bytealg.IndexByteString", "internal/bytealg.IndexString"], unfollowed := true, recurses := true, named := ["internal/bytealg.MaxLen"], apart := false }
def FnExactAddSignsSaid : Prop := fnExactAddSignsRow.holds Try.pinned (OpenSpec.ofChange fnExactAddSignsSpec)

/-- ITS FALSE NEIGHBOUR: 'it returns false'. Refute it at one input. -/
def fnExactAddSignsWrong : ChangeSpec := { name := "fnExactAddSigns", fn := fun _ => fun
  | [d1, d2] => { results := [.lit (.bool false)], args := [d1, d2] }
  | _ => none }
def FnExactAddSignsWrongFalsely : Prop := fnExactAddSignsRow.holds Try.pinned (OpenSpec.ofChange fnExactAddSignsWrong)

/-- 'laws.FnExactNegateSigns': WHATEVER THE INPUT: true; the input reads as it did. -/
def fnExactNegateSignsSpec : ChangeSpec := { name := "fnExactNegateSigns", fn := fun _ => fun
  | [d] => { results := [.lit (.bool true)], args := [d] }
  | _ => none }
def fnExactNegateSignsRow : OpenClaim := { program := "ytcgifmoddojnmaa", sum := "b0daff0b637bf514e46e5dede245053c49994f4923a66a3fe4137266dbead868", func := "loop.example/g01305/laws.FnExactNegateSigns", spec := "fnExactNegateSigns", inPlace := ["internal/bytealg.IndexByteString", "internal/bytealg.IndexString"], named := ["internal/bytealg.MaxLen"], apart := false }
def FnExactNegateSignsSaid : Prop := fnExactNegateSignsRow.holds Try.pinned (OpenSpec.ofChange fnExactNegateSignsSpec)

/-- ITS FALSE NEIGHBOUR: 'it returns false'. Refute it at one input. -/
def fnExactNegateSignsWrong : ChangeSpec := { name := "fnExactNegateSigns", fn := fun _ => fun
  | [d] => { results := [.lit (.bool false)], args := [d] }
  | _ => none }
def FnExactNegateSignsWrongFalsely : Prop := fnExactNegateSignsRow.holds Try.pinned (OpenSpec.ofChange fnExactNegateSignsWrong)

/-- 'laws.FnExactPayBoth': WHATEVER THE INPUT: true; the input reads as it did. -/
def fnExactPayBothSpec : ChangeSpec := { name := "fnExactPayBoth", fn := fun _ => fun
  | [d1, d2, d3] => { results := [.lit (.bool true)], args := [d1, d2, d3] }
  | _ => none }
def fnExactPayBothRow : OpenClaim := { program := "ytcgifmoddojnmaa", sum := "b0daff0b637bf514e46e5dede245053c49994f4923a66a3fe4137266dbead868", func := "loop.example/g01305/laws.FnExactPayBoth", spec := "fnExactPayBoth", apart := false }
def FnExactPayBothSaid : Prop := fnExactPayBothRow.holds Try.pinned (OpenSpec.ofChange fnExactPayBothSpec)

/-- ITS FALSE NEIGHBOUR: 'it returns false'. Refute it at one input. -/
def fnExactPayBothWrong : ChangeSpec := { name := "fnExactPayBoth", fn := fun _ => fun
  | [d1, d2, d3] => { results := [.lit (.bool false)], args := [d1, d2, d3] }
  | _ => none }
def FnExactPayBothWrongFalsely : Prop := fnExactPayBothRow.holds Try.pinned (OpenSpec.ofChange fnExactPayBothWrong)

/- THE SECOND FORM. 'bulk': how many values and letters a reading holds, each counted each time it is reached (what is shared counts as often as it is met; a slice's spare places count too). A statement '..UptoSaid' is the law's where the arguments, and the package variables that the reading takes, are together of bulk at most 1048576: NARROWER than '..Said'. Prove '..Said' where nothing that the law and all that it calls make is longer than what came in: it says more and counts as full. Else prove '..UptoSaid'. A law counts once. -/
mutual
def uptoBulk {H : Type} : DataW H → Nat
  | .lit (.string bytes) => bytes.length + 1
  | .lit _ => 1
  | .nil => 1
  | .ptr d => uptoBulk d + 1
  | .slice elems spare => uptoBulkAll elems + uptoBulkAll spare + 1
  | .agg parts => uptoBulkAll parts + 1
  | .iface _ d => uptoBulk d + 1
  | .map entries => uptoBulkEntries entries + 1
  | .held _ => 1
def uptoBulkAll {H : Type} : List (DataW H) → Nat
  | [] => 0
  | d :: r => uptoBulk d + uptoBulkAll r
def uptoBulkEntries {H : Type} : List (Lit × DataW H) → Nat
  | [] => 0
  | x :: r => uptoBulkEntry x + uptoBulkEntries r
def uptoBulkEntry {H : Type} : Lit × DataW H → Nat
  | (.string bytes, d) => bytes.length + uptoBulk d + 1
  | (_, d) => uptoBulk d + 1
 end
def uptoSmall : (H : Type) → List (DataW H) → Bool := fun _ ds => decide (uptoBulkAll ds ≤ 1048576)
def OpenSpec.upto (s : _root_.Go.ChangeSpec) : _root_.Go.OpenSpec := { _root_.Go.OpenSpec.ofChange s with cond := some uptoSmall }

/-- 'laws.FnExactCanBalance', WHERE WHAT IT READS IS OF BULK AT MOST 1048576: true; the input reads as it did. -/
def fnExactCanBalanceUptoRow : OpenClaim := { program := "ytcgifmoddojnmaa", sum := "b0daff0b637bf514e46e5dede245053c49994f4923a66a3fe4137266dbead868", func := "loop.example/g01305/laws.FnExactCanBalance", spec := "fnExactCanBalance", unfollowed := true, recurses := true, apart := false, narrowed := true }
def FnExactCanBalanceUptoSaid : Prop := fnExactCanBalanceUptoRow.holds Try.pinned (OpenSpec.upto fnExactCanBalanceSpec)

/-- 'laws.FnExactWaysBoth', WHERE WHAT IT READS IS OF BULK AT MOST 1048576: true; the input reads as it did. -/
def fnExactWaysBothUptoRow : OpenClaim := { program := "ytcgifmoddojnmaa", sum := "b0daff0b637bf514e46e5dede245053c49994f4923a66a3fe4137266dbead868", func := "loop.example/g01305/laws.FnExactWaysBoth", spec := "fnExactWaysBoth", unfollowed := true, recurses := true, apart := false, narrowed := true }
def FnExactWaysBothUptoSaid : Prop := fnExactWaysBothUptoRow.holds Try.pinned (OpenSpec.upto fnExactWaysBothSpec)

/-- 'laws.FnExactFirstBoth', WHERE WHAT IT READS IS OF BULK AT MOST 1048576: true; the input reads as it did. -/
def fnExactFirstBothUptoRow : OpenClaim := { program := "ytcgifmoddojnmaa", sum := "b0daff0b637bf514e46e5dede245053c49994f4923a66a3fe4137266dbead868", func := "loop.example/g01305/laws.FnExactFirstBoth", spec := "fnExactFirstBoth", unfollowed := true, recurses := true, apart := false, narrowed := true }
def FnExactFirstBothUptoSaid : Prop := fnExactFirstBothUptoRow.holds Try.pinned (OpenSpec.upto fnExactFirstBothSpec)

/-- 'laws.FnExactFewestBoth', WHERE WHAT IT READS IS OF BULK AT MOST 1048576: true; the input reads as it did. -/
def fnExactFewestBothUptoRow : OpenClaim := { program := "ytcgifmoddojnmaa", sum := "b0daff0b637bf514e46e5dede245053c49994f4923a66a3fe4137266dbead868", func := "loop.example/g01305/laws.FnExactFewestBoth", spec := "fnExactFewestBoth", unfollowed := true, recurses := true, apart := false, narrowed := true }
def FnExactFewestBothUptoSaid : Prop := fnExactFewestBothUptoRow.holds Try.pinned (OpenSpec.upto fnExactFewestBothSpec)

/-- 'laws.FnExactValueOfSigns', WHERE WHAT IT READS IS OF BULK AT MOST 1048576: true; the input reads as it did. -/
def fnExactValueOfSignsUptoRow : OpenClaim := { program := "ytcgifmoddojnmaa", sum := "b0daff0b637bf514e46e5dede245053c49994f4923a66a3fe4137266dbead868", func := "loop.example/g01305/laws.FnExactValueOfSigns", spec := "fnExactValueOfSigns", inPlace := ["internal/bytealg.IndexByteString", "internal/bytealg.IndexString"], named := ["internal/bytealg.MaxLen"], apart := false, narrowed := true }
def FnExactValueOfSignsUptoSaid : Prop := fnExactValueOfSignsUptoRow.holds Try.pinned (OpenSpec.upto fnExactValueOfSignsSpec)

/-- 'laws.FnExactOtherSigns', WHERE WHAT IT READS IS OF BULK AT MOST 1048576: true; the input reads as it did. -/
def fnExactOtherSignsUptoRow : OpenClaim := { program := "ytcgifmoddojnmaa", sum := "b0daff0b637bf514e46e5dede245053c49994f4923a66a3fe4137266dbead868", func := "loop.example/g01305/laws.FnExactOtherSigns", spec := "fnExactOtherSigns", inPlace := ["internal/bytealg.IndexByteString", "internal/bytealg.IndexString"], named := ["internal/bytealg.MaxLen"], apart := false, narrowed := true }
def FnExactOtherSignsUptoSaid : Prop := fnExactOtherSignsUptoRow.holds Try.pinned (OpenSpec.upto fnExactOtherSignsSpec)

/-- 'laws.FnExactRunBoth', WHERE WHAT IT READS IS OF BULK AT MOST 1048576: true; the input reads as it did. -/
def fnExactRunBothUptoRow : OpenClaim := { program := "ytcgifmoddojnmaa", sum := "b0daff0b637bf514e46e5dede245053c49994f4923a66a3fe4137266dbead868", func := "loop.example/g01305/laws.FnExactRunBoth", spec := "fnExactRunBoth", unfollowed := true, recurses := true, apart := false, narrowed := true }
def FnExactRunBothUptoSaid : Prop := fnExactRunBothUptoRow.holds Try.pinned (OpenSpec.upto fnExactRunBothSpec)

/-- 'laws.FnExactGapsBoth', WHERE WHAT IT READS IS OF BULK AT MOST 1048576: true; the input reads as it did. -/
def fnExactGapsBothUptoRow : OpenClaim := { program := "ytcgifmoddojnmaa", sum := "b0daff0b637bf514e46e5dede245053c49994f4923a66a3fe4137266dbead868", func := "loop.example/g01305/laws.FnExactGapsBoth", spec := "fnExactGapsBoth", unfollowed := true, recurses := true, apart := false, narrowed := true }
def FnExactGapsBothUptoSaid : Prop := fnExactGapsBothUptoRow.holds Try.pinned (OpenSpec.upto fnExactGapsBothSpec)

/-- 'laws.FnExactCountBoth', WHERE WHAT IT READS IS OF BULK AT MOST 1048576: true; the input reads as it did. -/
def fnExactCountBothUptoRow : OpenClaim := { program := "ytcgifmoddojnmaa", sum := "b0daff0b637bf514e46e5dede245053c49994f4923a66a3fe4137266dbead868", func := "loop.example/g01305/laws.FnExactCountBoth", spec := "fnExactCountBoth", unfollowed := true, recurses := true, apart := false, narrowed := true }
def FnExactCountBothUptoSaid : Prop := fnExactCountBothUptoRow.holds Try.pinned (OpenSpec.upto fnExactCountBothSpec)

/-- 'laws.FnExactBestBoth', WHERE WHAT IT READS IS OF BULK AT MOST 1048576: true; the input reads as it did. -/
def fnExactBestBothUptoRow : OpenClaim := { program := "ytcgifmoddojnmaa", sum := "b0daff0b637bf514e46e5dede245053c49994f4923a66a3fe4137266dbead868", func := "loop.example/g01305/laws.FnExactBestBoth", spec := "fnExactBestBoth", unfollowed := true, recurses := true, apart := false, narrowed := true }
def FnExactBestBothUptoSaid : Prop := fnExactBestBothUptoRow.holds Try.pinned (OpenSpec.upto fnExactBestBothSpec)

/-- 'laws.FnExactPiecesForRun', WHERE WHAT IT READS IS OF BULK AT MOST 1048576: true; the input reads as it did. -/
def fnExactPiecesForRunUptoRow : OpenClaim := { program := "ytcgifmoddojnmaa", sum := "b0daff0b637bf514e46e5dede245053c49994f4923a66a3fe4137266dbead868", func := "loop.example/g01305/laws.FnExactPiecesForRun", spec := "fnExactPiecesForRun", apart := false, narrowed := true }
def FnExactPiecesForRunUptoSaid : Prop := fnExactPiecesForRunUptoRow.holds Try.pinned (OpenSpec.upto fnExactPiecesForRunSpec)

/-- 'laws.FnExactBalancedOf', WHERE WHAT IT READS IS OF BULK AT MOST 1048576: true; the input reads as it did. -/
def fnExactBalancedOfUptoRow : OpenClaim := { program := "ytcgifmoddojnmaa", sum := "b0daff0b637bf514e46e5dede245053c49994f4923a66a3fe4137266dbead868", func := "loop.example/g01305/laws.FnExactBalancedOf", spec := "fnExactBalancedOf", unfollowed := true, recurses := true, apart := false, narrowed := true }
def FnExactBalancedOfUptoSaid : Prop := fnExactBalancedOfUptoRow.holds Try.pinned (OpenSpec.upto fnExactBalancedOfSpec)

/-- 'laws.FnExactNumberOfSigns', WHERE WHAT IT READS IS OF BULK AT MOST 1048576: true; the input reads as it did. -/
def fnExactNumberOfSignsUptoRow : OpenClaim := { program := "ytcgifmoddojnmaa", sum := "b0daff0b637bf514e46e5dede245053c49994f4923a66a3fe4137266dbead868", func := "loop.example/g01305/laws.FnExactNumberOfSigns", spec := "fnExactNumberOfSigns", inPlace := ["internal/bytealg.IndexByteString", "internal/bytealg.IndexString"], unfollowed := true, recurses := true, named := ["internal/bytealg.MaxLen"], apart := false, narrowed := true }
def FnExactNumberOfSignsUptoSaid : Prop := fnExactNumberOfSignsUptoRow.holds Try.pinned (OpenSpec.upto fnExactNumberOfSignsSpec)

/-- 'laws.FnExactAddSigns', WHERE WHAT IT READS IS OF BULK AT MOST 1048576: true; the input reads as it did. -/
def fnExactAddSignsUptoRow : OpenClaim := { program := "ytcgifmoddojnmaa", sum := "b0daff0b637bf514e46e5dede245053c49994f4923a66a3fe4137266dbead868", func := "loop.example/g01305/laws.FnExactAddSigns", spec := "fnExactAddSigns", inPlace := ["internal/bytealg.IndexByteString", "internal/bytealg.IndexString"], unfollowed := true, recurses := true, named := ["internal/bytealg.MaxLen"], apart := false, narrowed := true }
def FnExactAddSignsUptoSaid : Prop := fnExactAddSignsUptoRow.holds Try.pinned (OpenSpec.upto fnExactAddSignsSpec)

/-- 'laws.FnExactNegateSigns', WHERE WHAT IT READS IS OF BULK AT MOST 1048576: true; the input reads as it did. -/
def fnExactNegateSignsUptoRow : OpenClaim := { program := "ytcgifmoddojnmaa", sum := "b0daff0b637bf514e46e5dede245053c49994f4923a66a3fe4137266dbead868", func := "loop.example/g01305/laws.FnExactNegateSigns", spec := "fnExactNegateSigns", inPlace := ["internal/bytealg.IndexByteString", "internal/bytealg.IndexString"], named := ["internal/bytealg.MaxLen"], apart := false, narrowed := true }
def FnExactNegateSignsUptoSaid : Prop := fnExactNegateSignsUptoRow.holds Try.pinned (OpenSpec.upto fnExactNegateSignsSpec)

/-- 'laws.FnExactPayBoth', WHERE WHAT IT READS IS OF BULK AT MOST 1048576: true; the input reads as it did. -/
def fnExactPayBothUptoRow : OpenClaim := { program := "ytcgifmoddojnmaa", sum := "b0daff0b637bf514e46e5dede245053c49994f4923a66a3fe4137266dbead868", func := "loop.example/g01305/laws.FnExactPayBoth", spec := "fnExactPayBoth", apart := false, narrowed := true }
def FnExactPayBothUptoSaid : Prop := fnExactPayBothUptoRow.holds Try.pinned (OpenSpec.upto fnExactPayBothSpec)

end Rows
end Go.Proofs.Ytcgifmoddojnmaa
