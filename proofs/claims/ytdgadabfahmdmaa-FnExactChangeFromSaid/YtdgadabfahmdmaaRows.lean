/-
  No cell of these rows narrows 'for every input' (looked for: loops, veiled, ifaces, maps, wideKeys, modest, calm, conditions, laid).
  DERIVED. THE GIVEN ROWS OF THIS SEAT. 15 by the template 'for every input the law returns true; each argument reads behind the call as it read before'; 0 by the template 'total and deterministic' (their statements: YtdgadabfahmdmaaTotals.lean).
  GIVEN WITH THE SEED: the statements are not yours to turn. If you find one false, say at which input.
  Laid BY PROGRAM, IN A SANDBOX (cutbox-rows.mjs): the forced cells as the released guide's own fill.sh prints them over the translation 3cd60087387134bc… (all of the seat's roots in one cut). By AI agents, Wed Nov 11 2026. No macro, syntax, notation, axiom, sorry.
-/
import Derived.Test.YtdgadabfahmdmaaChecked
import GoSem.Claim
import GoSem.ClaimJoined
import GoSem.ClaimMapViews
import Derived.JoinedTies
import Derived.KernelRfl
namespace Go.Proofs.Ytdgadabfahmdmaa
/- THE CELL 'sum', in the pinned program and in every row, IS THE sha256 OF THE DUMP (.gsa) THAT YtdgadabfahmdmaaProg.lean LOADS. Nothing in Lean hashes anything: it is a label: what it is worth is what the hold of that sum in a sandbox is worth. -/
noncomputable def Try.pinned : Pinned := { name := "ytdgadabfahmdmaa", sum := "3cd60087387134bc736d654950056f306c9fd5c801e60a98b8a9c5f15872368d", checked := Try.checked }
namespace Rows
def none {H : Type} : Left H := { results := [], args := [] }

/-- 'laws.FnExactAreCoins': WHATEVER THE INPUT: true; the input reads as it did. -/
def fnExactAreCoinsSpec : ChangeSpec := { name := "fnExactAreCoins", fn := fun _ => fun
  | [d] => { results := [.lit (.bool true)], args := [d] }
  | _ => none }
def fnExactAreCoinsRow : OpenClaim := { program := "ytdgadabfahmdmaa", sum := "3cd60087387134bc736d654950056f306c9fd5c801e60a98b8a9c5f15872368d", func := "loop.example/g01305/laws.FnExactAreCoins", spec := "fnExactAreCoins", apart := false }
def FnExactAreCoinsSaid : Prop := fnExactAreCoinsRow.holds Try.pinned (OpenSpec.ofChange fnExactAreCoinsSpec)

/-- ITS FALSE NEIGHBOUR: 'it returns false'. Refute it at one input. -/
def fnExactAreCoinsWrong : ChangeSpec := { name := "fnExactAreCoins", fn := fun _ => fun
  | [d] => { results := [.lit (.bool false)], args := [d] }
  | _ => none }
def FnExactAreCoinsWrongFalsely : Prop := fnExactAreCoinsRow.holds Try.pinned (OpenSpec.ofChange fnExactAreCoinsWrong)

/-- 'laws.FnExactGreedyChange': WHATEVER THE INPUT: true; the input reads as it did. -/
def fnExactGreedyChangeSpec : ChangeSpec := { name := "fnExactGreedyChange", fn := fun _ => fun
  | [d1, d2] => { results := [.lit (.bool true)], args := [d1, d2] }
  | _ => none }
def fnExactGreedyChangeRow : OpenClaim := { program := "ytdgadabfahmdmaa", sum := "3cd60087387134bc736d654950056f306c9fd5c801e60a98b8a9c5f15872368d", func := "loop.example/g01305/laws.FnExactGreedyChange", spec := "fnExactGreedyChange", unfollowed := true, recurses := true, apart := false }
def FnExactGreedyChangeSaid : Prop := fnExactGreedyChangeRow.holds Try.pinned (OpenSpec.ofChange fnExactGreedyChangeSpec)

/-- ITS FALSE NEIGHBOUR: 'it returns false'. Refute it at one input. -/
def fnExactGreedyChangeWrong : ChangeSpec := { name := "fnExactGreedyChange", fn := fun _ => fun
  | [d1, d2] => { results := [.lit (.bool false)], args := [d1, d2] }
  | _ => none }
def FnExactGreedyChangeWrongFalsely : Prop := fnExactGreedyChangeRow.holds Try.pinned (OpenSpec.ofChange fnExactGreedyChangeWrong)

/-- 'laws.FnExactGreedyCount': WHATEVER THE INPUT: true; the input reads as it did. -/
def fnExactGreedyCountSpec : ChangeSpec := { name := "fnExactGreedyCount", fn := fun _ => fun
  | [d1, d2] => { results := [.lit (.bool true)], args := [d1, d2] }
  | _ => none }
def fnExactGreedyCountRow : OpenClaim := { program := "ytdgadabfahmdmaa", sum := "3cd60087387134bc736d654950056f306c9fd5c801e60a98b8a9c5f15872368d", func := "loop.example/g01305/laws.FnExactGreedyCount", spec := "fnExactGreedyCount", unfollowed := true, recurses := true, apart := false }
def FnExactGreedyCountSaid : Prop := fnExactGreedyCountRow.holds Try.pinned (OpenSpec.ofChange fnExactGreedyCountSpec)

/-- ITS FALSE NEIGHBOUR: 'it returns false'. Refute it at one input. -/
def fnExactGreedyCountWrong : ChangeSpec := { name := "fnExactGreedyCount", fn := fun _ => fun
  | [d1, d2] => { results := [.lit (.bool false)], args := [d1, d2] }
  | _ => none }
def FnExactGreedyCountWrongFalsely : Prop := fnExactGreedyCountRow.holds Try.pinned (OpenSpec.ofChange fnExactGreedyCountWrong)

/-- 'laws.FnExactFewestCoins': WHATEVER THE INPUT: true; the input reads as it did. -/
def fnExactFewestCoinsSpec : ChangeSpec := { name := "fnExactFewestCoins", fn := fun _ => fun
  | [d1, d2] => { results := [.lit (.bool true)], args := [d1, d2] }
  | _ => none }
def fnExactFewestCoinsRow : OpenClaim := { program := "ytdgadabfahmdmaa", sum := "3cd60087387134bc736d654950056f306c9fd5c801e60a98b8a9c5f15872368d", func := "loop.example/g01305/laws.FnExactFewestCoins", spec := "fnExactFewestCoins", unfollowed := true, recurses := true, apart := false }
def FnExactFewestCoinsSaid : Prop := fnExactFewestCoinsRow.holds Try.pinned (OpenSpec.ofChange fnExactFewestCoinsSpec)

/-- ITS FALSE NEIGHBOUR: 'it returns false'. Refute it at one input. -/
def fnExactFewestCoinsWrong : ChangeSpec := { name := "fnExactFewestCoins", fn := fun _ => fun
  | [d1, d2] => { results := [.lit (.bool false)], args := [d1, d2] }
  | _ => none }
def FnExactFewestCoinsWrongFalsely : Prop := fnExactFewestCoinsRow.holds Try.pinned (OpenSpec.ofChange fnExactFewestCoinsWrong)

/-- 'laws.FnExactBestChange': WHATEVER THE INPUT: true; the input reads as it did. -/
def fnExactBestChangeSpec : ChangeSpec := { name := "fnExactBestChange", fn := fun _ => fun
  | [d1, d2] => { results := [.lit (.bool true)], args := [d1, d2] }
  | _ => none }
def fnExactBestChangeRow : OpenClaim := { program := "ytdgadabfahmdmaa", sum := "3cd60087387134bc736d654950056f306c9fd5c801e60a98b8a9c5f15872368d", func := "loop.example/g01305/laws.FnExactBestChange", spec := "fnExactBestChange", unfollowed := true, recurses := true, apart := false }
def FnExactBestChangeSaid : Prop := fnExactBestChangeRow.holds Try.pinned (OpenSpec.ofChange fnExactBestChangeSpec)

/-- ITS FALSE NEIGHBOUR: 'it returns false'. Refute it at one input. -/
def fnExactBestChangeWrong : ChangeSpec := { name := "fnExactBestChange", fn := fun _ => fun
  | [d1, d2] => { results := [.lit (.bool false)], args := [d1, d2] }
  | _ => none }
def FnExactBestChangeWrongFalsely : Prop := fnExactBestChangeRow.holds Try.pinned (OpenSpec.ofChange fnExactBestChangeWrong)

/-- 'laws.FnExactCountChange': WHATEVER THE INPUT: true; the input reads as it did. -/
def fnExactCountChangeSpec : ChangeSpec := { name := "fnExactCountChange", fn := fun _ => fun
  | [d1, d2] => { results := [.lit (.bool true)], args := [d1, d2] }
  | _ => none }
def fnExactCountChangeRow : OpenClaim := { program := "ytdgadabfahmdmaa", sum := "3cd60087387134bc736d654950056f306c9fd5c801e60a98b8a9c5f15872368d", func := "loop.example/g01305/laws.FnExactCountChange", spec := "fnExactCountChange", unfollowed := true, recurses := true, apart := false }
def FnExactCountChangeSaid : Prop := fnExactCountChangeRow.holds Try.pinned (OpenSpec.ofChange fnExactCountChangeSpec)

/-- ITS FALSE NEIGHBOUR: 'it returns false'. Refute it at one input. -/
def fnExactCountChangeWrong : ChangeSpec := { name := "fnExactCountChange", fn := fun _ => fun
  | [d1, d2] => { results := [.lit (.bool false)], args := [d1, d2] }
  | _ => none }
def FnExactCountChangeWrongFalsely : Prop := fnExactCountChangeRow.holds Try.pinned (OpenSpec.ofChange fnExactCountChangeWrong)

/-- 'laws.FnExactFirstFailure': WHATEVER THE INPUT: true; the input reads as it did. -/
def fnExactFirstFailureSpec : ChangeSpec := { name := "fnExactFirstFailure", fn := fun _ => fun
  | [d] => { results := [.lit (.bool true)], args := [d] }
  | _ => none }
def fnExactFirstFailureRow : OpenClaim := { program := "ytdgadabfahmdmaa", sum := "3cd60087387134bc736d654950056f306c9fd5c801e60a98b8a9c5f15872368d", func := "loop.example/g01305/laws.FnExactFirstFailure", spec := "fnExactFirstFailure", unfollowed := true, recurses := true, apart := false }
def FnExactFirstFailureSaid : Prop := fnExactFirstFailureRow.holds Try.pinned (OpenSpec.ofChange fnExactFirstFailureSpec)

/-- ITS FALSE NEIGHBOUR: 'it returns false'. Refute it at one input. -/
def fnExactFirstFailureWrong : ChangeSpec := { name := "fnExactFirstFailure", fn := fun _ => fun
  | [d] => { results := [.lit (.bool false)], args := [d] }
  | _ => none }
def FnExactFirstFailureWrongFalsely : Prop := fnExactFirstFailureRow.holds Try.pinned (OpenSpec.ofChange fnExactFirstFailureWrong)

/-- 'laws.FnExactIsGreedy': WHATEVER THE INPUT: true; the input reads as it did. -/
def fnExactIsGreedySpec : ChangeSpec := { name := "fnExactIsGreedy", fn := fun _ => fun
  | [d] => { results := [.lit (.bool true)], args := [d] }
  | _ => none }
def fnExactIsGreedyRow : OpenClaim := { program := "ytdgadabfahmdmaa", sum := "3cd60087387134bc736d654950056f306c9fd5c801e60a98b8a9c5f15872368d", func := "loop.example/g01305/laws.FnExactIsGreedy", spec := "fnExactIsGreedy", unfollowed := true, recurses := true, apart := false }
def FnExactIsGreedySaid : Prop := fnExactIsGreedyRow.holds Try.pinned (OpenSpec.ofChange fnExactIsGreedySpec)

/-- ITS FALSE NEIGHBOUR: 'it returns false'. Refute it at one input. -/
def fnExactIsGreedyWrong : ChangeSpec := { name := "fnExactIsGreedy", fn := fun _ => fun
  | [d] => { results := [.lit (.bool false)], args := [d] }
  | _ => none }
def FnExactIsGreedyWrongFalsely : Prop := fnExactIsGreedyRow.holds Try.pinned (OpenSpec.ofChange fnExactIsGreedyWrong)

/-- 'laws.FnExactFailuresUpTo': WHATEVER THE INPUT: true; the input reads as it did. -/
def fnExactFailuresUpToSpec : ChangeSpec := { name := "fnExactFailuresUpTo", fn := fun _ => fun
  | [d1, d2] => { results := [.lit (.bool true)], args := [d1, d2] }
  | _ => none }
def fnExactFailuresUpToRow : OpenClaim := { program := "ytdgadabfahmdmaa", sum := "3cd60087387134bc736d654950056f306c9fd5c801e60a98b8a9c5f15872368d", func := "loop.example/g01305/laws.FnExactFailuresUpTo", spec := "fnExactFailuresUpTo", unfollowed := true, recurses := true, apart := false }
def FnExactFailuresUpToSaid : Prop := fnExactFailuresUpToRow.holds Try.pinned (OpenSpec.ofChange fnExactFailuresUpToSpec)

/-- ITS FALSE NEIGHBOUR: 'it returns false'. Refute it at one input. -/
def fnExactFailuresUpToWrong : ChangeSpec := { name := "fnExactFailuresUpTo", fn := fun _ => fun
  | [d1, d2] => { results := [.lit (.bool false)], args := [d1, d2] }
  | _ => none }
def FnExactFailuresUpToWrongFalsely : Prop := fnExactFailuresUpToRow.holds Try.pinned (OpenSpec.ofChange fnExactFailuresUpToWrong)

/-- 'laws.FnExactCanChange': WHATEVER THE INPUT: true; the input reads as it did. -/
def fnExactCanChangeSpec : ChangeSpec := { name := "fnExactCanChange", fn := fun _ => fun
  | [d1, d2, d3] => { results := [.lit (.bool true)], args := [d1, d2, d3] }
  | _ => none }
def fnExactCanChangeRow : OpenClaim := { program := "ytdgadabfahmdmaa", sum := "3cd60087387134bc736d654950056f306c9fd5c801e60a98b8a9c5f15872368d", func := "loop.example/g01305/laws.FnExactCanChange", spec := "fnExactCanChange", unfollowed := true, recurses := true, apart := false }
def FnExactCanChangeSaid : Prop := fnExactCanChangeRow.holds Try.pinned (OpenSpec.ofChange fnExactCanChangeSpec)

/-- ITS FALSE NEIGHBOUR: 'it returns false'. Refute it at one input. -/
def fnExactCanChangeWrong : ChangeSpec := { name := "fnExactCanChange", fn := fun _ => fun
  | [d1, d2, d3] => { results := [.lit (.bool false)], args := [d1, d2, d3] }
  | _ => none }
def FnExactCanChangeWrongFalsely : Prop := fnExactCanChangeRow.holds Try.pinned (OpenSpec.ofChange fnExactCanChangeWrong)

/-- 'laws.FnExactChangeFrom': WHATEVER THE INPUT: true; the input reads as it did. -/
def fnExactChangeFromSpec : ChangeSpec := { name := "fnExactChangeFrom", fn := fun _ => fun
  | [d1, d2, d3] => { results := [.lit (.bool true)], args := [d1, d2, d3] }
  | _ => none }
def fnExactChangeFromRow : OpenClaim := { program := "ytdgadabfahmdmaa", sum := "3cd60087387134bc736d654950056f306c9fd5c801e60a98b8a9c5f15872368d", func := "loop.example/g01305/laws.FnExactChangeFrom", spec := "fnExactChangeFrom", unfollowed := true, recurses := true, apart := false }
def FnExactChangeFromSaid : Prop := fnExactChangeFromRow.holds Try.pinned (OpenSpec.ofChange fnExactChangeFromSpec)

/-- ITS FALSE NEIGHBOUR: 'it returns false'. Refute it at one input. -/
def fnExactChangeFromWrong : ChangeSpec := { name := "fnExactChangeFrom", fn := fun _ => fun
  | [d1, d2, d3] => { results := [.lit (.bool false)], args := [d1, d2, d3] }
  | _ => none }
def FnExactChangeFromWrongFalsely : Prop := fnExactChangeFromRow.holds Try.pinned (OpenSpec.ofChange fnExactChangeFromWrong)

/-- 'laws.FnExactGreatestUnpaid': WHATEVER THE INPUT: true; the input reads as it did. -/
def fnExactGreatestUnpaidSpec : ChangeSpec := { name := "fnExactGreatestUnpaid", fn := fun _ => fun
  | [d] => { results := [.lit (.bool true)], args := [d] }
  | _ => none }
def fnExactGreatestUnpaidRow : OpenClaim := { program := "ytdgadabfahmdmaa", sum := "3cd60087387134bc736d654950056f306c9fd5c801e60a98b8a9c5f15872368d", func := "loop.example/g01305/laws.FnExactGreatestUnpaid", spec := "fnExactGreatestUnpaid", apart := false }
def FnExactGreatestUnpaidSaid : Prop := fnExactGreatestUnpaidRow.holds Try.pinned (OpenSpec.ofChange fnExactGreatestUnpaidSpec)

/-- ITS FALSE NEIGHBOUR: 'it returns false'. Refute it at one input. -/
def fnExactGreatestUnpaidWrong : ChangeSpec := { name := "fnExactGreatestUnpaid", fn := fun _ => fun
  | [d] => { results := [.lit (.bool false)], args := [d] }
  | _ => none }
def FnExactGreatestUnpaidWrongFalsely : Prop := fnExactGreatestUnpaidRow.holds Try.pinned (OpenSpec.ofChange fnExactGreatestUnpaidWrong)

/-- 'laws.FnExactCountUnpaid': WHATEVER THE INPUT: true; the input reads as it did. -/
def fnExactCountUnpaidSpec : ChangeSpec := { name := "fnExactCountUnpaid", fn := fun _ => fun
  | [d] => { results := [.lit (.bool true)], args := [d] }
  | _ => none }
def fnExactCountUnpaidRow : OpenClaim := { program := "ytdgadabfahmdmaa", sum := "3cd60087387134bc736d654950056f306c9fd5c801e60a98b8a9c5f15872368d", func := "loop.example/g01305/laws.FnExactCountUnpaid", spec := "fnExactCountUnpaid", apart := false }
def FnExactCountUnpaidSaid : Prop := fnExactCountUnpaidRow.holds Try.pinned (OpenSpec.ofChange fnExactCountUnpaidSpec)

/-- ITS FALSE NEIGHBOUR: 'it returns false'. Refute it at one input. -/
def fnExactCountUnpaidWrong : ChangeSpec := { name := "fnExactCountUnpaid", fn := fun _ => fun
  | [d] => { results := [.lit (.bool false)], args := [d] }
  | _ => none }
def FnExactCountUnpaidWrongFalsely : Prop := fnExactCountUnpaidRow.holds Try.pinned (OpenSpec.ofChange fnExactCountUnpaidWrong)

/-- 'laws.FnExactNeedlessCoins': WHATEVER THE INPUT: true; the input reads as it did. -/
def fnExactNeedlessCoinsSpec : ChangeSpec := { name := "fnExactNeedlessCoins", fn := fun _ => fun
  | [d] => { results := [.lit (.bool true)], args := [d] }
  | _ => none }
def fnExactNeedlessCoinsRow : OpenClaim := { program := "ytdgadabfahmdmaa", sum := "3cd60087387134bc736d654950056f306c9fd5c801e60a98b8a9c5f15872368d", func := "loop.example/g01305/laws.FnExactNeedlessCoins", spec := "fnExactNeedlessCoins", unfollowed := true, recurses := true, apart := false }
def FnExactNeedlessCoinsSaid : Prop := fnExactNeedlessCoinsRow.holds Try.pinned (OpenSpec.ofChange fnExactNeedlessCoinsSpec)

/-- ITS FALSE NEIGHBOUR: 'it returns false'. Refute it at one input. -/
def fnExactNeedlessCoinsWrong : ChangeSpec := { name := "fnExactNeedlessCoins", fn := fun _ => fun
  | [d] => { results := [.lit (.bool false)], args := [d] }
  | _ => none }
def FnExactNeedlessCoinsWrongFalsely : Prop := fnExactNeedlessCoinsRow.holds Try.pinned (OpenSpec.ofChange fnExactNeedlessCoinsWrong)

/-- 'laws.FnExactMeanCoins': WHATEVER THE INPUT: true; the input reads as it did. -/
def fnExactMeanCoinsSpec : ChangeSpec := { name := "fnExactMeanCoins", fn := fun _ => fun
  | [d1, d2] => { results := [.lit (.bool true)], args := [d1, d2] }
  | _ => none }
def fnExactMeanCoinsRow : OpenClaim := { program := "ytdgadabfahmdmaa", sum := "3cd60087387134bc736d654950056f306c9fd5c801e60a98b8a9c5f15872368d", func := "loop.example/g01305/laws.FnExactMeanCoins", spec := "fnExactMeanCoins", unfollowed := true, recurses := true, apart := false }
def FnExactMeanCoinsSaid : Prop := fnExactMeanCoinsRow.holds Try.pinned (OpenSpec.ofChange fnExactMeanCoinsSpec)

/-- ITS FALSE NEIGHBOUR: 'it returns false'. Refute it at one input. -/
def fnExactMeanCoinsWrong : ChangeSpec := { name := "fnExactMeanCoins", fn := fun _ => fun
  | [d1, d2] => { results := [.lit (.bool false)], args := [d1, d2] }
  | _ => none }
def FnExactMeanCoinsWrongFalsely : Prop := fnExactMeanCoinsRow.holds Try.pinned (OpenSpec.ofChange fnExactMeanCoinsWrong)

/- THE SECOND FORM. 'bulk': how many values and letters a reading holds, each counted each time it is reached (what is shared counts as often as it is met; a slice's spare places count too). A statement '..UptoSaid' is the law's where the arguments, and the package variables that the reading takes, are together of bulk at most 1048576: NARROWER than '..Said'. Prove '..Said' where nothing that the law and all that it calls make is longer than what came in: it says more and counts as full. Else prove '..UptoSaid'. A law counts once. -/
mutual
def uptoBulk {H : Type} : DataW H → Nat
  | .lit (.string bytes) => bytes.length + 1
  | .lit _ => 1
  | .nil => 1
  | .ptr d => uptoBulk d + 1
  | .slice elems spare => uptoBulkAll elems + uptoBulkAll spare + 1
  | .agg parts => uptoBulkAll parts + 1
  | .iface _ d => uptoBulk d + 1
  | .map entries => uptoBulkEntries entries + 1
  | .held _ => 1
def uptoBulkAll {H : Type} : List (DataW H) → Nat
  | [] => 0
  | d :: r => uptoBulk d + uptoBulkAll r
def uptoBulkEntries {H : Type} : List (Lit × DataW H) → Nat
  | [] => 0
  | x :: r => uptoBulkEntry x + uptoBulkEntries r
def uptoBulkEntry {H : Type} : Lit × DataW H → Nat
  | (.string bytes, d) => bytes.length + uptoBulk d + 1
  | (_, d) => uptoBulk d + 1
 end
def uptoSmall : (H : Type) → List (DataW H) → Bool := fun _ ds => decide (uptoBulkAll ds ≤ 1048576)
def OpenSpec.upto (s : _root_.Go.ChangeSpec) : _root_.Go.OpenSpec := { _root_.Go.OpenSpec.ofChange s with cond := some uptoSmall }

/-- 'laws.FnExactAreCoins', WHERE WHAT IT READS IS OF BULK AT MOST 1048576: true; the input reads as it did. -/
def fnExactAreCoinsUptoRow : OpenClaim := { program := "ytdgadabfahmdmaa", sum := "3cd60087387134bc736d654950056f306c9fd5c801e60a98b8a9c5f15872368d", func := "loop.example/g01305/laws.FnExactAreCoins", spec := "fnExactAreCoins", apart := false, narrowed := true }
def FnExactAreCoinsUptoSaid : Prop := fnExactAreCoinsUptoRow.holds Try.pinned (OpenSpec.upto fnExactAreCoinsSpec)

/-- 'laws.FnExactGreedyChange', WHERE WHAT IT READS IS OF BULK AT MOST 1048576: true; the input reads as it did. -/
def fnExactGreedyChangeUptoRow : OpenClaim := { program := "ytdgadabfahmdmaa", sum := "3cd60087387134bc736d654950056f306c9fd5c801e60a98b8a9c5f15872368d", func := "loop.example/g01305/laws.FnExactGreedyChange", spec := "fnExactGreedyChange", unfollowed := true, recurses := true, apart := false, narrowed := true }
def FnExactGreedyChangeUptoSaid : Prop := fnExactGreedyChangeUptoRow.holds Try.pinned (OpenSpec.upto fnExactGreedyChangeSpec)

/-- 'laws.FnExactGreedyCount', WHERE WHAT IT READS IS OF BULK AT MOST 1048576: true; the input reads as it did. -/
def fnExactGreedyCountUptoRow : OpenClaim := { program := "ytdgadabfahmdmaa", sum := "3cd60087387134bc736d654950056f306c9fd5c801e60a98b8a9c5f15872368d", func := "loop.example/g01305/laws.FnExactGreedyCount", spec := "fnExactGreedyCount", unfollowed := true, recurses := true, apart := false, narrowed := true }
def FnExactGreedyCountUptoSaid : Prop := fnExactGreedyCountUptoRow.holds Try.pinned (OpenSpec.upto fnExactGreedyCountSpec)

/-- 'laws.FnExactFewestCoins', WHERE WHAT IT READS IS OF BULK AT MOST 1048576: true; the input reads as it did. -/
def fnExactFewestCoinsUptoRow : OpenClaim := { program := "ytdgadabfahmdmaa", sum := "3cd60087387134bc736d654950056f306c9fd5c801e60a98b8a9c5f15872368d", func := "loop.example/g01305/laws.FnExactFewestCoins", spec := "fnExactFewestCoins", unfollowed := true, recurses := true, apart := false, narrowed := true }
def FnExactFewestCoinsUptoSaid : Prop := fnExactFewestCoinsUptoRow.holds Try.pinned (OpenSpec.upto fnExactFewestCoinsSpec)

/-- 'laws.FnExactBestChange', WHERE WHAT IT READS IS OF BULK AT MOST 1048576: true; the input reads as it did. -/
def fnExactBestChangeUptoRow : OpenClaim := { program := "ytdgadabfahmdmaa", sum := "3cd60087387134bc736d654950056f306c9fd5c801e60a98b8a9c5f15872368d", func := "loop.example/g01305/laws.FnExactBestChange", spec := "fnExactBestChange", unfollowed := true, recurses := true, apart := false, narrowed := true }
def FnExactBestChangeUptoSaid : Prop := fnExactBestChangeUptoRow.holds Try.pinned (OpenSpec.upto fnExactBestChangeSpec)

/-- 'laws.FnExactCountChange', WHERE WHAT IT READS IS OF BULK AT MOST 1048576: true; the input reads as it did. -/
def fnExactCountChangeUptoRow : OpenClaim := { program := "ytdgadabfahmdmaa", sum := "3cd60087387134bc736d654950056f306c9fd5c801e60a98b8a9c5f15872368d", func := "loop.example/g01305/laws.FnExactCountChange", spec := "fnExactCountChange", unfollowed := true, recurses := true, apart := false, narrowed := true }
def FnExactCountChangeUptoSaid : Prop := fnExactCountChangeUptoRow.holds Try.pinned (OpenSpec.upto fnExactCountChangeSpec)

/-- 'laws.FnExactFirstFailure', WHERE WHAT IT READS IS OF BULK AT MOST 1048576: true; the input reads as it did. -/
def fnExactFirstFailureUptoRow : OpenClaim := { program := "ytdgadabfahmdmaa", sum := "3cd60087387134bc736d654950056f306c9fd5c801e60a98b8a9c5f15872368d", func := "loop.example/g01305/laws.FnExactFirstFailure", spec := "fnExactFirstFailure", unfollowed := true, recurses := true, apart := false, narrowed := true }
def FnExactFirstFailureUptoSaid : Prop := fnExactFirstFailureUptoRow.holds Try.pinned (OpenSpec.upto fnExactFirstFailureSpec)

/-- 'laws.FnExactIsGreedy', WHERE WHAT IT READS IS OF BULK AT MOST 1048576: true; the input reads as it did. -/
def fnExactIsGreedyUptoRow : OpenClaim := { program := "ytdgadabfahmdmaa", sum := "3cd60087387134bc736d654950056f306c9fd5c801e60a98b8a9c5f15872368d", func := "loop.example/g01305/laws.FnExactIsGreedy", spec := "fnExactIsGreedy", unfollowed := true, recurses := true, apart := false, narrowed := true }
def FnExactIsGreedyUptoSaid : Prop := fnExactIsGreedyUptoRow.holds Try.pinned (OpenSpec.upto fnExactIsGreedySpec)

/-- 'laws.FnExactFailuresUpTo', WHERE WHAT IT READS IS OF BULK AT MOST 1048576: true; the input reads as it did. -/
def fnExactFailuresUpToUptoRow : OpenClaim := { program := "ytdgadabfahmdmaa", sum := "3cd60087387134bc736d654950056f306c9fd5c801e60a98b8a9c5f15872368d", func := "loop.example/g01305/laws.FnExactFailuresUpTo", spec := "fnExactFailuresUpTo", unfollowed := true, recurses := true, apart := false, narrowed := true }
def FnExactFailuresUpToUptoSaid : Prop := fnExactFailuresUpToUptoRow.holds Try.pinned (OpenSpec.upto fnExactFailuresUpToSpec)

/-- 'laws.FnExactCanChange', WHERE WHAT IT READS IS OF BULK AT MOST 1048576: true; the input reads as it did. -/
def fnExactCanChangeUptoRow : OpenClaim := { program := "ytdgadabfahmdmaa", sum := "3cd60087387134bc736d654950056f306c9fd5c801e60a98b8a9c5f15872368d", func := "loop.example/g01305/laws.FnExactCanChange", spec := "fnExactCanChange", unfollowed := true, recurses := true, apart := false, narrowed := true }
def FnExactCanChangeUptoSaid : Prop := fnExactCanChangeUptoRow.holds Try.pinned (OpenSpec.upto fnExactCanChangeSpec)

/-- 'laws.FnExactChangeFrom', WHERE WHAT IT READS IS OF BULK AT MOST 1048576: true; the input reads as it did. -/
def fnExactChangeFromUptoRow : OpenClaim := { program := "ytdgadabfahmdmaa", sum := "3cd60087387134bc736d654950056f306c9fd5c801e60a98b8a9c5f15872368d", func := "loop.example/g01305/laws.FnExactChangeFrom", spec := "fnExactChangeFrom", unfollowed := true, recurses := true, apart := false, narrowed := true }
def FnExactChangeFromUptoSaid : Prop := fnExactChangeFromUptoRow.holds Try.pinned (OpenSpec.upto fnExactChangeFromSpec)

/-- 'laws.FnExactGreatestUnpaid', WHERE WHAT IT READS IS OF BULK AT MOST 1048576: true; the input reads as it did. -/
def fnExactGreatestUnpaidUptoRow : OpenClaim := { program := "ytdgadabfahmdmaa", sum := "3cd60087387134bc736d654950056f306c9fd5c801e60a98b8a9c5f15872368d", func := "loop.example/g01305/laws.FnExactGreatestUnpaid", spec := "fnExactGreatestUnpaid", apart := false, narrowed := true }
def FnExactGreatestUnpaidUptoSaid : Prop := fnExactGreatestUnpaidUptoRow.holds Try.pinned (OpenSpec.upto fnExactGreatestUnpaidSpec)

/-- 'laws.FnExactCountUnpaid', WHERE WHAT IT READS IS OF BULK AT MOST 1048576: true; the input reads as it did. -/
def fnExactCountUnpaidUptoRow : OpenClaim := { program := "ytdgadabfahmdmaa", sum := "3cd60087387134bc736d654950056f306c9fd5c801e60a98b8a9c5f15872368d", func := "loop.example/g01305/laws.FnExactCountUnpaid", spec := "fnExactCountUnpaid", apart := false, narrowed := true }
def FnExactCountUnpaidUptoSaid : Prop := fnExactCountUnpaidUptoRow.holds Try.pinned (OpenSpec.upto fnExactCountUnpaidSpec)

/-- 'laws.FnExactNeedlessCoins', WHERE WHAT IT READS IS OF BULK AT MOST 1048576: true; the input reads as it did. -/
def fnExactNeedlessCoinsUptoRow : OpenClaim := { program := "ytdgadabfahmdmaa", sum := "3cd60087387134bc736d654950056f306c9fd5c801e60a98b8a9c5f15872368d", func := "loop.example/g01305/laws.FnExactNeedlessCoins", spec := "fnExactNeedlessCoins", unfollowed := true, recurses := true, apart := false, narrowed := true }
def FnExactNeedlessCoinsUptoSaid : Prop := fnExactNeedlessCoinsUptoRow.holds Try.pinned (OpenSpec.upto fnExactNeedlessCoinsSpec)

/-- 'laws.FnExactMeanCoins', WHERE WHAT IT READS IS OF BULK AT MOST 1048576: true; the input reads as it did. -/
def fnExactMeanCoinsUptoRow : OpenClaim := { program := "ytdgadabfahmdmaa", sum := "3cd60087387134bc736d654950056f306c9fd5c801e60a98b8a9c5f15872368d", func := "loop.example/g01305/laws.FnExactMeanCoins", spec := "fnExactMeanCoins", unfollowed := true, recurses := true, apart := false, narrowed := true }
def FnExactMeanCoinsUptoSaid : Prop := fnExactMeanCoinsUptoRow.holds Try.pinned (OpenSpec.upto fnExactMeanCoinsSpec)

end Rows
end Go.Proofs.Ytdgadabfahmdmaa
