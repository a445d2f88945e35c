/-
  No cell of these rows narrows 'for every input' (looked for: loops, veiled, ifaces, maps, wideKeys, modest, calm, conditions, laid).
  DERIVED. THE GIVEN ROWS OF THIS SEAT. 3 by the template 'for every input the law returns true; each argument reads behind the call as it read before'; 0 by the template 'total and deterministic' (their statements: YtcgifmoddojnmabTotals.lean).
  GIVEN WITH THE SEED: the statements are not yours to turn. If you find one false, say at which input.
  Laid BY PROGRAM, IN A SANDBOX (cutbox-rows.mjs): the forced cells as the released guide's own fill.sh prints them over the translation 809323d9b2eab85b… (all of the seat's roots in one cut). By AI agents, Wed Nov 11 2026. No macro, syntax, notation, axiom, sorry.
-/
import Derived.Test.YtcgifmoddojnmabChecked
import GoSem.Claim
import GoSem.ClaimJoined
import GoSem.ClaimMapViews
import Derived.JoinedTies
import Derived.KernelRfl
namespace Go.Proofs.Ytcgifmoddojnmab
/- THE CELL 'sum', in the pinned program and in every row, IS THE sha256 OF THE DUMP (.gsa) THAT YtcgifmoddojnmabProg.lean LOADS. Nothing in Lean hashes anything: it is a label: what it is worth is what the hold of that sum in a sandbox is worth. -/
noncomputable def Try.pinned : Pinned := { name := "ytcgifmoddojnmab", sum := "809323d9b2eab85bb67d33b0ed6e65bd0151d6727ae74b9c4380d9f9d865cd45", checked := Try.checked }
namespace Rows
def none {H : Type} : Left H := { results := [], args := [] }

/-- 'laws.FnExactBinaryCards': WHATEVER THE INPUT: true; the input reads as it did. -/
def fnExactBinaryCardsSpec : ChangeSpec := { name := "fnExactBinaryCards", fn := fun _ => fun
  | [d] => { results := [.lit (.bool true)], args := [d] }
  | _ => none }
def fnExactBinaryCardsRow : OpenClaim := { program := "ytcgifmoddojnmab", sum := "809323d9b2eab85bb67d33b0ed6e65bd0151d6727ae74b9c4380d9f9d865cd45", func := "loop.example/g01305/laws.FnExactBinaryCards", spec := "fnExactBinaryCards", apart := false }
def FnExactBinaryCardsSaid : Prop := fnExactBinaryCardsRow.holds Try.pinned (OpenSpec.ofChange fnExactBinaryCardsSpec)

/-- ITS FALSE NEIGHBOUR: 'it returns false'. Refute it at one input. -/
def fnExactBinaryCardsWrong : ChangeSpec := { name := "fnExactBinaryCards", fn := fun _ => fun
  | [d] => { results := [.lit (.bool false)], args := [d] }
  | _ => none }
def FnExactBinaryCardsWrongFalsely : Prop := fnExactBinaryCardsRow.holds Try.pinned (OpenSpec.ofChange fnExactBinaryCardsWrong)

/-- 'laws.FnExactCheckedCards': WHATEVER THE INPUT: true; the input reads as it did. -/
def fnExactCheckedCardsSpec : ChangeSpec := { name := "fnExactCheckedCards", fn := fun _ => fun
  | [d] => { results := [.lit (.bool true)], args := [d] }
  | _ => none }
def fnExactCheckedCardsRow : OpenClaim := { program := "ytcgifmoddojnmab", sum := "809323d9b2eab85bb67d33b0ed6e65bd0151d6727ae74b9c4380d9f9d865cd45", func := "loop.example/g01305/laws.FnExactCheckedCards", spec := "fnExactCheckedCards", unfollowed := true, recurses := true, apart := false }
def FnExactCheckedCardsSaid : Prop := fnExactCheckedCardsRow.holds Try.pinned (OpenSpec.ofChange fnExactCheckedCardsSpec)

/-- ITS FALSE NEIGHBOUR: 'it returns false'. Refute it at one input. -/
def fnExactCheckedCardsWrong : ChangeSpec := { name := "fnExactCheckedCards", fn := fun _ => fun
  | [d] => { results := [.lit (.bool false)], args := [d] }
  | _ => none }
def FnExactCheckedCardsWrongFalsely : Prop := fnExactCheckedCardsRow.holds Try.pinned (OpenSpec.ofChange fnExactCheckedCardsWrong)

/-- 'laws.FnExactAddCard': WHATEVER THE INPUT: true; the input reads as it did. -/
def fnExactAddCardSpec : ChangeSpec := { name := "fnExactAddCard", fn := fun _ => fun
  | [d1, d2] => { results := [.lit (.bool true)], args := [d1, d2] }
  | _ => none }
def fnExactAddCardRow : OpenClaim := { program := "ytcgifmoddojnmab", sum := "809323d9b2eab85bb67d33b0ed6e65bd0151d6727ae74b9c4380d9f9d865cd45", func := "loop.example/g01305/laws.FnExactAddCard", spec := "fnExactAddCard", apart := false }
def FnExactAddCardSaid : Prop := fnExactAddCardRow.holds Try.pinned (OpenSpec.ofChange fnExactAddCardSpec)

/-- ITS FALSE NEIGHBOUR: 'it returns false'. Refute it at one input. -/
def fnExactAddCardWrong : ChangeSpec := { name := "fnExactAddCard", fn := fun _ => fun
  | [d1, d2] => { results := [.lit (.bool false)], args := [d1, d2] }
  | _ => none }
def FnExactAddCardWrongFalsely : Prop := fnExactAddCardRow.holds Try.pinned (OpenSpec.ofChange fnExactAddCardWrong)

/- THE SECOND FORM. 'bulk': how many values and letters a reading holds, each counted each time it is reached (what is shared counts as often as it is met; a slice's spare places count too). A statement '..UptoSaid' is the law's where the arguments, and the package variables that the reading takes, are together of bulk at most 1048576: NARROWER than '..Said'. Prove '..Said' where nothing that the law and all that it calls make is longer than what came in: it says more and counts as full. Else prove '..UptoSaid'. A law counts once. -/
mutual
def uptoBulk {H : Type} : DataW H → Nat
  | .lit (.string bytes) => bytes.length + 1
  | .lit _ => 1
  | .nil => 1
  | .ptr d => uptoBulk d + 1
  | .slice elems spare => uptoBulkAll elems + uptoBulkAll spare + 1
  | .agg parts => uptoBulkAll parts + 1
  | .iface _ d => uptoBulk d + 1
  | .map entries => uptoBulkEntries entries + 1
  | .held _ => 1
def uptoBulkAll {H : Type} : List (DataW H) → Nat
  | [] => 0
  | d :: r => uptoBulk d + uptoBulkAll r
def uptoBulkEntries {H : Type} : List (Lit × DataW H) → Nat
  | [] => 0
  | x :: r => uptoBulkEntry x + uptoBulkEntries r
def uptoBulkEntry {H : Type} : Lit × DataW H → Nat
  | (.string bytes, d) => bytes.length + uptoBulk d + 1
  | (_, d) => uptoBulk d + 1
 end
def uptoSmall : (H : Type) → List (DataW H) → Bool := fun _ ds => decide (uptoBulkAll ds ≤ 1048576)
def OpenSpec.upto (s : _root_.Go.ChangeSpec) : _root_.Go.OpenSpec := { _root_.Go.OpenSpec.ofChange s with cond := some uptoSmall }

/-- 'laws.FnExactBinaryCards', WHERE WHAT IT READS IS OF BULK AT MOST 1048576: true; the input reads as it did. -/
def fnExactBinaryCardsUptoRow : OpenClaim := { program := "ytcgifmoddojnmab", sum := "809323d9b2eab85bb67d33b0ed6e65bd0151d6727ae74b9c4380d9f9d865cd45", func := "loop.example/g01305/laws.FnExactBinaryCards", spec := "fnExactBinaryCards", apart := false, narrowed := true }
def FnExactBinaryCardsUptoSaid : Prop := fnExactBinaryCardsUptoRow.holds Try.pinned (OpenSpec.upto fnExactBinaryCardsSpec)

/-- 'laws.FnExactCheckedCards', WHERE WHAT IT READS IS OF BULK AT MOST 1048576: true; the input reads as it did. -/
def fnExactCheckedCardsUptoRow : OpenClaim := { program := "ytcgifmoddojnmab", sum := "809323d9b2eab85bb67d33b0ed6e65bd0151d6727ae74b9c4380d9f9d865cd45", func := "loop.example/g01305/laws.FnExactCheckedCards", spec := "fnExactCheckedCards", unfollowed := true, recurses := true, apart := false, narrowed := true }
def FnExactCheckedCardsUptoSaid : Prop := fnExactCheckedCardsUptoRow.holds Try.pinned (OpenSpec.upto fnExactCheckedCardsSpec)

/-- 'laws.FnExactAddCard', WHERE WHAT IT READS IS OF BULK AT MOST 1048576: true; the input reads as it did. -/
def fnExactAddCardUptoRow : OpenClaim := { program := "ytcgifmoddojnmab", sum := "809323d9b2eab85bb67d33b0ed6e65bd0151d6727ae74b9c4380d9f9d865cd45", func := "loop.example/g01305/laws.FnExactAddCard", spec := "fnExactAddCard", apart := false, narrowed := true }
def FnExactAddCardUptoSaid : Prop := fnExactAddCardUptoRow.holds Try.pinned (OpenSpec.upto fnExactAddCardSpec)

end Rows
end Go.Proofs.Ytcgifmoddojnmab
