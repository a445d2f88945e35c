/-
  No cell of these rows narrows 'for every input' (looked for: loops, veiled, ifaces, maps, wideKeys, modest, calm, conditions, laid).
  DERIVED. THE GIVEN ROWS OF THIS SEAT. 6 by the template 'for every input the law returns true; each argument reads behind the call as it read before'; 0 by the template 'total and deterministic' (their statements: YtkadmopnfmbedaaTotals.lean).
  GIVEN WITH THE SEED: the statements are not yours to turn. If you find one false, say at which input.
  Laid BY PROGRAM, IN A SANDBOX (cutbox-rows.mjs): the forced cells as the released guide's own fill.sh prints them over the translation 83e9d49ab4c1bcf5… (all of the seat's roots in one cut). By AI agents, Wed Nov 11 2026. No macro, syntax, notation, axiom, sorry.
-/
import Derived.Test.YtkadmopnfmbedaaChecked
import GoSem.Claim
import GoSem.ClaimJoined
import GoSem.ClaimMapViews
import Derived.JoinedTies
import Derived.KernelRfl
namespace Go.Proofs.Ytkadmopnfmbedaa
/- THE CELL 'sum', in the pinned program and in every row, IS THE sha256 OF THE DUMP (.gsa) THAT YtkadmopnfmbedaaProg.lean LOADS. Nothing in Lean hashes anything: it is a label: what it is worth is what the hold of that sum in a sandbox is worth. -/
noncomputable def Try.pinned : Pinned := { name := "ytkadmopnfmbedaa", sum := "83e9d49ab4c1bcf54d0ccb9e4e924d89dbc61dbd6f0a175c5e139df5983c4b36", checked := Try.checked }
namespace Rows
def none {H : Type} : Left H := { results := [], args := [] }

/-- 'laws.FnExactPiecesOfCuts': WHATEVER THE INPUT: true; the input reads as it did. -/
def fnExactPiecesOfCutsSpec : ChangeSpec := { name := "fnExactPiecesOfCuts", fn := fun _ => fun
  | [d1, d2] => { results := [.lit (.bool true)], args := [d1, d2] }
  | _ => none }
def fnExactPiecesOfCutsRow : OpenClaim := { program := "ytkadmopnfmbedaa", sum := "83e9d49ab4c1bcf54d0ccb9e4e924d89dbc61dbd6f0a175c5e139df5983c4b36", func := "loop.example/g01305/laws.FnExactPiecesOfCuts", spec := "fnExactPiecesOfCuts", recurses := true, plainKeys := false, apart := false }
def FnExactPiecesOfCutsSaid : Prop := fnExactPiecesOfCutsRow.holds Try.pinned (OpenSpec.ofChange fnExactPiecesOfCutsSpec)

/-- ITS FALSE NEIGHBOUR: 'it returns false'. Refute it at one input. -/
def fnExactPiecesOfCutsWrong : ChangeSpec := { name := "fnExactPiecesOfCuts", fn := fun _ => fun
  | [d1, d2] => { results := [.lit (.bool false)], args := [d1, d2] }
  | _ => none }
def FnExactPiecesOfCutsWrongFalsely : Prop := fnExactPiecesOfCutsRow.holds Try.pinned (OpenSpec.ofChange fnExactPiecesOfCutsWrong)

/-- 'laws.FnExactDoCutsPay': WHATEVER THE INPUT: true; the input reads as it did. -/
def fnExactDoCutsPaySpec : ChangeSpec := { name := "fnExactDoCutsPay", fn := fun _ => fun
  | [d1, d2] => { results := [.lit (.bool true)], args := [d1, d2] }
  | _ => none }
def fnExactDoCutsPayRow : OpenClaim := { program := "ytkadmopnfmbedaa", sum := "83e9d49ab4c1bcf54d0ccb9e4e924d89dbc61dbd6f0a175c5e139df5983c4b36", func := "loop.example/g01305/laws.FnExactDoCutsPay", spec := "fnExactDoCutsPay", recurses := true, plainKeys := false, apart := false }
def FnExactDoCutsPaySaid : Prop := fnExactDoCutsPayRow.holds Try.pinned (OpenSpec.ofChange fnExactDoCutsPaySpec)

/-- ITS FALSE NEIGHBOUR: 'it returns false'. Refute it at one input. -/
def fnExactDoCutsPayWrong : ChangeSpec := { name := "fnExactDoCutsPay", fn := fun _ => fun
  | [d1, d2] => { results := [.lit (.bool false)], args := [d1, d2] }
  | _ => none }
def FnExactDoCutsPayWrongFalsely : Prop := fnExactDoCutsPayRow.holds Try.pinned (OpenSpec.ofChange fnExactDoCutsPayWrong)

/-- 'laws.FnExactRunOfCuts': WHATEVER THE INPUT: true; the input reads as it did. -/
def fnExactRunOfCutsSpec : ChangeSpec := { name := "fnExactRunOfCuts", fn := fun _ => fun
  | [d1, d2] => { results := [.lit (.bool true)], args := [d1, d2] }
  | _ => none }
def fnExactRunOfCutsRow : OpenClaim := { program := "ytkadmopnfmbedaa", sum := "83e9d49ab4c1bcf54d0ccb9e4e924d89dbc61dbd6f0a175c5e139df5983c4b36", func := "loop.example/g01305/laws.FnExactRunOfCuts", spec := "fnExactRunOfCuts", recurses := true, plainKeys := false, apart := false }
def FnExactRunOfCutsSaid : Prop := fnExactRunOfCutsRow.holds Try.pinned (OpenSpec.ofChange fnExactRunOfCutsSpec)

/-- ITS FALSE NEIGHBOUR: 'it returns false'. Refute it at one input. -/
def fnExactRunOfCutsWrong : ChangeSpec := { name := "fnExactRunOfCuts", fn := fun _ => fun
  | [d1, d2] => { results := [.lit (.bool false)], args := [d1, d2] }
  | _ => none }
def FnExactRunOfCutsWrongFalsely : Prop := fnExactRunOfCutsRow.holds Try.pinned (OpenSpec.ofChange fnExactRunOfCutsWrong)

/-- 'laws.FnExactNeedlessCuts': WHATEVER THE INPUT: true; the input reads as it did. -/
def fnExactNeedlessCutsSpec : ChangeSpec := { name := "fnExactNeedlessCuts", fn := fun _ => fun
  | [d1, d2] => { results := [.lit (.bool true)], args := [d1, d2] }
  | _ => none }
def fnExactNeedlessCutsRow : OpenClaim := { program := "ytkadmopnfmbedaa", sum := "83e9d49ab4c1bcf54d0ccb9e4e924d89dbc61dbd6f0a175c5e139df5983c4b36", func := "loop.example/g01305/laws.FnExactNeedlessCuts", spec := "fnExactNeedlessCuts", recurses := true, plainKeys := false, apart := false }
def FnExactNeedlessCutsSaid : Prop := fnExactNeedlessCutsRow.holds Try.pinned (OpenSpec.ofChange fnExactNeedlessCutsSpec)

/-- ITS FALSE NEIGHBOUR: 'it returns false'. Refute it at one input. -/
def fnExactNeedlessCutsWrong : ChangeSpec := { name := "fnExactNeedlessCuts", fn := fun _ => fun
  | [d1, d2] => { results := [.lit (.bool false)], args := [d1, d2] }
  | _ => none }
def FnExactNeedlessCutsWrongFalsely : Prop := fnExactNeedlessCutsRow.holds Try.pinned (OpenSpec.ofChange fnExactNeedlessCutsWrong)

/-- 'laws.FnExactRingPieces': WHATEVER THE INPUT: true; the input reads as it did. -/
def fnExactRingPiecesSpec : ChangeSpec := { name := "fnExactRingPieces", fn := fun _ => fun
  | [d1, d2] => { results := [.lit (.bool true)], args := [d1, d2] }
  | _ => none }
def fnExactRingPiecesRow : OpenClaim := { program := "ytkadmopnfmbedaa", sum := "83e9d49ab4c1bcf54d0ccb9e4e924d89dbc61dbd6f0a175c5e139df5983c4b36", func := "loop.example/g01305/laws.FnExactRingPieces", spec := "fnExactRingPieces", recurses := true, plainKeys := false, apart := false }
def FnExactRingPiecesSaid : Prop := fnExactRingPiecesRow.holds Try.pinned (OpenSpec.ofChange fnExactRingPiecesSpec)

/-- ITS FALSE NEIGHBOUR: 'it returns false'. Refute it at one input. -/
def fnExactRingPiecesWrong : ChangeSpec := { name := "fnExactRingPieces", fn := fun _ => fun
  | [d1, d2] => { results := [.lit (.bool false)], args := [d1, d2] }
  | _ => none }
def FnExactRingPiecesWrongFalsely : Prop := fnExactRingPiecesRow.holds Try.pinned (OpenSpec.ofChange fnExactRingPiecesWrong)

/-- 'laws.FnExactCheckedCards': WHATEVER THE INPUT: true; the input reads as it did. -/
def fnExactCheckedCardsSpec : ChangeSpec := { name := "fnExactCheckedCards", fn := fun _ => fun
  | [d] => { results := [.lit (.bool true)], args := [d] }
  | _ => none }
def fnExactCheckedCardsRow : OpenClaim := { program := "ytkadmopnfmbedaa", sum := "83e9d49ab4c1bcf54d0ccb9e4e924d89dbc61dbd6f0a175c5e139df5983c4b36", func := "loop.example/g01305/laws.FnExactCheckedCards", spec := "fnExactCheckedCards", unfollowed := true, recurses := true, plainKeys := false, apart := false }
def FnExactCheckedCardsSaid : Prop := fnExactCheckedCardsRow.holds Try.pinned (OpenSpec.ofChange fnExactCheckedCardsSpec)

/-- ITS FALSE NEIGHBOUR: 'it returns false'. Refute it at one input. -/
def fnExactCheckedCardsWrong : ChangeSpec := { name := "fnExactCheckedCards", fn := fun _ => fun
  | [d] => { results := [.lit (.bool false)], args := [d] }
  | _ => none }
def FnExactCheckedCardsWrongFalsely : Prop := fnExactCheckedCardsRow.holds Try.pinned (OpenSpec.ofChange fnExactCheckedCardsWrong)

/- THE SECOND FORM. 'bulk': how many values and letters a reading holds, each counted each time it is reached (what is shared counts as often as it is met; a slice's spare places count too). A statement '..UptoSaid' is the law's where the arguments, and the package variables that the reading takes, are together of bulk at most 1048576: NARROWER than '..Said'. Prove '..Said' where nothing that the law and all that it calls make is longer than what came in: it says more and counts as full. Else prove '..UptoSaid'. A law counts once. -/
mutual
def uptoBulk {H : Type} : DataW H → Nat
  | .lit (.string bytes) => bytes.length + 1
  | .lit _ => 1
  | .nil => 1
  | .ptr d => uptoBulk d + 1
  | .slice elems spare => uptoBulkAll elems + uptoBulkAll spare + 1
  | .agg parts => uptoBulkAll parts + 1
  | .iface _ d => uptoBulk d + 1
  | .map entries => uptoBulkEntries entries + 1
  | .held _ => 1
def uptoBulkAll {H : Type} : List (DataW H) → Nat
  | [] => 0
  | d :: r => uptoBulk d + uptoBulkAll r
def uptoBulkEntries {H : Type} : List (Lit × DataW H) → Nat
  | [] => 0
  | x :: r => uptoBulkEntry x + uptoBulkEntries r
def uptoBulkEntry {H : Type} : Lit × DataW H → Nat
  | (.string bytes, d) => bytes.length + uptoBulk d + 1
  | (_, d) => uptoBulk d + 1
 end
def uptoSmall : (H : Type) → List (DataW H) → Bool := fun _ ds => decide (uptoBulkAll ds ≤ 1048576)
def OpenSpec.upto (s : _root_.Go.ChangeSpec) : _root_.Go.OpenSpec := { _root_.Go.OpenSpec.ofChange s with cond := some uptoSmall }

/-- 'laws.FnExactPiecesOfCuts', WHERE WHAT IT READS IS OF BULK AT MOST 1048576: true; the input reads as it did. -/
def fnExactPiecesOfCutsUptoRow : OpenClaim := { program := "ytkadmopnfmbedaa", sum := "83e9d49ab4c1bcf54d0ccb9e4e924d89dbc61dbd6f0a175c5e139df5983c4b36", func := "loop.example/g01305/laws.FnExactPiecesOfCuts", spec := "fnExactPiecesOfCuts", recurses := true, plainKeys := false, apart := false, narrowed := true }
def FnExactPiecesOfCutsUptoSaid : Prop := fnExactPiecesOfCutsUptoRow.holds Try.pinned (OpenSpec.upto fnExactPiecesOfCutsSpec)

/-- 'laws.FnExactDoCutsPay', WHERE WHAT IT READS IS OF BULK AT MOST 1048576: true; the input reads as it did. -/
def fnExactDoCutsPayUptoRow : OpenClaim := { program := "ytkadmopnfmbedaa", sum := "83e9d49ab4c1bcf54d0ccb9e4e924d89dbc61dbd6f0a175c5e139df5983c4b36", func := "loop.example/g01305/laws.FnExactDoCutsPay", spec := "fnExactDoCutsPay", recurses := true, plainKeys := false, apart := false, narrowed := true }
def FnExactDoCutsPayUptoSaid : Prop := fnExactDoCutsPayUptoRow.holds Try.pinned (OpenSpec.upto fnExactDoCutsPaySpec)

/-- 'laws.FnExactRunOfCuts', WHERE WHAT IT READS IS OF BULK AT MOST 1048576: true; the input reads as it did. -/
def fnExactRunOfCutsUptoRow : OpenClaim := { program := "ytkadmopnfmbedaa", sum := "83e9d49ab4c1bcf54d0ccb9e4e924d89dbc61dbd6f0a175c5e139df5983c4b36", func := "loop.example/g01305/laws.FnExactRunOfCuts", spec := "fnExactRunOfCuts", recurses := true, plainKeys := false, apart := false, narrowed := true }
def FnExactRunOfCutsUptoSaid : Prop := fnExactRunOfCutsUptoRow.holds Try.pinned (OpenSpec.upto fnExactRunOfCutsSpec)

/-- 'laws.FnExactNeedlessCuts', WHERE WHAT IT READS IS OF BULK AT MOST 1048576: true; the input reads as it did. -/
def fnExactNeedlessCutsUptoRow : OpenClaim := { program := "ytkadmopnfmbedaa", sum := "83e9d49ab4c1bcf54d0ccb9e4e924d89dbc61dbd6f0a175c5e139df5983c4b36", func := "loop.example/g01305/laws.FnExactNeedlessCuts", spec := "fnExactNeedlessCuts", recurses := true, plainKeys := false, apart := false, narrowed := true }
def FnExactNeedlessCutsUptoSaid : Prop := fnExactNeedlessCutsUptoRow.holds Try.pinned (OpenSpec.upto fnExactNeedlessCutsSpec)

/-- 'laws.FnExactRingPieces', WHERE WHAT IT READS IS OF BULK AT MOST 1048576: true; the input reads as it did. -/
def fnExactRingPiecesUptoRow : OpenClaim := { program := "ytkadmopnfmbedaa", sum := "83e9d49ab4c1bcf54d0ccb9e4e924d89dbc61dbd6f0a175c5e139df5983c4b36", func := "loop.example/g01305/laws.FnExactRingPieces", spec := "fnExactRingPieces", recurses := true, plainKeys := false, apart := false, narrowed := true }
def FnExactRingPiecesUptoSaid : Prop := fnExactRingPiecesUptoRow.holds Try.pinned (OpenSpec.upto fnExactRingPiecesSpec)

/-- 'laws.FnExactCheckedCards', WHERE WHAT IT READS IS OF BULK AT MOST 1048576: true; the input reads as it did. -/
def fnExactCheckedCardsUptoRow : OpenClaim := { program := "ytkadmopnfmbedaa", sum := "83e9d49ab4c1bcf54d0ccb9e4e924d89dbc61dbd6f0a175c5e139df5983c4b36", func := "loop.example/g01305/laws.FnExactCheckedCards", spec := "fnExactCheckedCards", unfollowed := true, recurses := true, plainKeys := false, apart := false, narrowed := true }
def FnExactCheckedCardsUptoSaid : Prop := fnExactCheckedCardsUptoRow.holds Try.pinned (OpenSpec.upto fnExactCheckedCardsSpec)

end Rows
end Go.Proofs.Ytkadmopnfmbedaa
