/-
  No cell of these rows narrows 'for every input' (looked for: loops, veiled, ifaces, maps, wideKeys, modest, calm, conditions, laid).
  DERIVED. THE GIVEN ROWS OF THIS SEAT. 17 by the template 'for every input the law returns true; each argument reads behind the call as it read before'; 0 by the template 'total and deterministic' (their statements: YtpolobjlihhjbaaTotals.lean).
  GIVEN WITH THE SEED: the statements are not yours to turn. If you find one false, say at which input.
  Laid BY PROGRAM, IN A SANDBOX (cutbox-rows.mjs): the forced cells as the released guide's own fill.sh prints them over the translation d0ca0b8e47475c1c… (all of the seat's roots in one cut). By AI agents, Wed Nov 11 2026. No macro, syntax, notation, axiom, sorry.
-/
import Derived.Test.YtpolobjlihhjbaaChecked
import GoSem.Claim
import GoSem.ClaimJoined
import GoSem.ClaimMapViews
import Derived.JoinedTies
import Derived.KernelRfl
namespace Go.Proofs.Ytpolobjlihhjbaa
/- THE CELL 'sum', in the pinned program and in every row, IS THE sha256 OF THE DUMP (.gsa) THAT YtpolobjlihhjbaaProg.lean LOADS. Nothing in Lean hashes anything: it is a label: what it is worth is what the hold of that sum in a sandbox is worth. -/
noncomputable def Try.pinned : Pinned := { name := "ytpolobjlihhjbaa", sum := "d0ca0b8e47475c1c3461c3a61f931a1b30a48edcad98d8cf534ea39a97698288", checked := Try.checked }
namespace Rows
def none {H : Type} : Left H := { results := [], args := [] }

/-- 'laws.FnExactAreCards': WHATEVER THE INPUT: true; the input reads as it did. -/
def fnExactAreCardsSpec : ChangeSpec := { name := "fnExactAreCards", fn := fun _ => fun
  | [d] => { results := [.lit (.bool true)], args := [d] }
  | _ => none }
def fnExactAreCardsRow : OpenClaim := { program := "ytpolobjlihhjbaa", sum := "d0ca0b8e47475c1c3461c3a61f931a1b30a48edcad98d8cf534ea39a97698288", func := "loop.example/g01305/laws.FnExactAreCards", spec := "fnExactAreCards", apart := false }
def FnExactAreCardsSaid : Prop := fnExactAreCardsRow.holds Try.pinned (OpenSpec.ofChange fnExactAreCardsSpec)

/-- ITS FALSE NEIGHBOUR: 'it returns false'. Refute it at one input. -/
def fnExactAreCardsWrong : ChangeSpec := { name := "fnExactAreCards", fn := fun _ => fun
  | [d] => { results := [.lit (.bool false)], args := [d] }
  | _ => none }
def FnExactAreCardsWrongFalsely : Prop := fnExactAreCardsRow.holds Try.pinned (OpenSpec.ofChange fnExactAreCardsWrong)

/-- 'laws.FnExactBinaryCards': WHATEVER THE INPUT: true; the input reads as it did. -/
def fnExactBinaryCardsSpec : ChangeSpec := { name := "fnExactBinaryCards", fn := fun _ => fun
  | [d] => { results := [.lit (.bool true)], args := [d] }
  | _ => none }
def fnExactBinaryCardsRow : OpenClaim := { program := "ytpolobjlihhjbaa", sum := "d0ca0b8e47475c1c3461c3a61f931a1b30a48edcad98d8cf534ea39a97698288", func := "loop.example/g01305/laws.FnExactBinaryCards", spec := "fnExactBinaryCards", apart := false }
def FnExactBinaryCardsSaid : Prop := fnExactBinaryCardsRow.holds Try.pinned (OpenSpec.ofChange fnExactBinaryCardsSpec)

/-- ITS FALSE NEIGHBOUR: 'it returns false'. Refute it at one input. -/
def fnExactBinaryCardsWrong : ChangeSpec := { name := "fnExactBinaryCards", fn := fun _ => fun
  | [d] => { results := [.lit (.bool false)], args := [d] }
  | _ => none }
def FnExactBinaryCardsWrongFalsely : Prop := fnExactBinaryCardsRow.holds Try.pinned (OpenSpec.ofChange fnExactBinaryCardsWrong)

/-- 'laws.FnExactAnswersOf': WHATEVER THE INPUT: true; the input reads as it did. -/
def fnExactAnswersOfSpec : ChangeSpec := { name := "fnExactAnswersOf", fn := fun _ => fun
  | [d1, d2] => { results := [.lit (.bool true)], args := [d1, d2] }
  | _ => none }
def fnExactAnswersOfRow : OpenClaim := { program := "ytpolobjlihhjbaa", sum := "d0ca0b8e47475c1c3461c3a61f931a1b30a48edcad98d8cf534ea39a97698288", func := "loop.example/g01305/laws.FnExactAnswersOf", spec := "fnExactAnswersOf", apart := false }
def FnExactAnswersOfSaid : Prop := fnExactAnswersOfRow.holds Try.pinned (OpenSpec.ofChange fnExactAnswersOfSpec)

/-- ITS FALSE NEIGHBOUR: 'it returns false'. Refute it at one input. -/
def fnExactAnswersOfWrong : ChangeSpec := { name := "fnExactAnswersOf", fn := fun _ => fun
  | [d1, d2] => { results := [.lit (.bool false)], args := [d1, d2] }
  | _ => none }
def FnExactAnswersOfWrongFalsely : Prop := fnExactAnswersOfRow.holds Try.pinned (OpenSpec.ofChange fnExactAnswersOfWrong)

/-- 'laws.FnExactNumbersTold': WHATEVER THE INPUT: true; the input reads as it did. -/
def fnExactNumbersToldSpec : ChangeSpec := { name := "fnExactNumbersTold", fn := fun _ => fun
  | [d1, d2] => { results := [.lit (.bool true)], args := [d1, d2] }
  | _ => none }
def fnExactNumbersToldRow : OpenClaim := { program := "ytpolobjlihhjbaa", sum := "d0ca0b8e47475c1c3461c3a61f931a1b30a48edcad98d8cf534ea39a97698288", func := "loop.example/g01305/laws.FnExactNumbersTold", spec := "fnExactNumbersTold", apart := false }
def FnExactNumbersToldSaid : Prop := fnExactNumbersToldRow.holds Try.pinned (OpenSpec.ofChange fnExactNumbersToldSpec)

/-- ITS FALSE NEIGHBOUR: 'it returns false'. Refute it at one input. -/
def fnExactNumbersToldWrong : ChangeSpec := { name := "fnExactNumbersTold", fn := fun _ => fun
  | [d1, d2] => { results := [.lit (.bool false)], args := [d1, d2] }
  | _ => none }
def FnExactNumbersToldWrongFalsely : Prop := fnExactNumbersToldRow.holds Try.pinned (OpenSpec.ofChange fnExactNumbersToldWrong)

/-- 'laws.FnExactTellsAll': WHATEVER THE INPUT: true; the input reads as it did. -/
def fnExactTellsAllSpec : ChangeSpec := { name := "fnExactTellsAll", fn := fun _ => fun
  | [d] => { results := [.lit (.bool true)], args := [d] }
  | _ => none }
def fnExactTellsAllRow : OpenClaim := { program := "ytpolobjlihhjbaa", sum := "d0ca0b8e47475c1c3461c3a61f931a1b30a48edcad98d8cf534ea39a97698288", func := "loop.example/g01305/laws.FnExactTellsAll", spec := "fnExactTellsAll", apart := false }
def FnExactTellsAllSaid : Prop := fnExactTellsAllRow.holds Try.pinned (OpenSpec.ofChange fnExactTellsAllSpec)

/-- ITS FALSE NEIGHBOUR: 'it returns false'. Refute it at one input. -/
def fnExactTellsAllWrong : ChangeSpec := { name := "fnExactTellsAll", fn := fun _ => fun
  | [d] => { results := [.lit (.bool false)], args := [d] }
  | _ => none }
def FnExactTellsAllWrongFalsely : Prop := fnExactTellsAllRow.holds Try.pinned (OpenSpec.ofChange fnExactTellsAllWrong)

/-- 'laws.FnExactLeastApart': WHATEVER THE INPUT: true; the input reads as it did. -/
def fnExactLeastApartSpec : ChangeSpec := { name := "fnExactLeastApart", fn := fun _ => fun
  | [d] => { results := [.lit (.bool true)], args := [d] }
  | _ => none }
def fnExactLeastApartRow : OpenClaim := { program := "ytpolobjlihhjbaa", sum := "d0ca0b8e47475c1c3461c3a61f931a1b30a48edcad98d8cf534ea39a97698288", func := "loop.example/g01305/laws.FnExactLeastApart", spec := "fnExactLeastApart", apart := false }
def FnExactLeastApartSaid : Prop := fnExactLeastApartRow.holds Try.pinned (OpenSpec.ofChange fnExactLeastApartSpec)

/-- ITS FALSE NEIGHBOUR: 'it returns false'. Refute it at one input. -/
def fnExactLeastApartWrong : ChangeSpec := { name := "fnExactLeastApart", fn := fun _ => fun
  | [d] => { results := [.lit (.bool false)], args := [d] }
  | _ => none }
def FnExactLeastApartWrongFalsely : Prop := fnExactLeastApartRow.holds Try.pinned (OpenSpec.ofChange fnExactLeastApartWrong)

/-- 'laws.FnExactLiesFound': WHATEVER THE INPUT: true; the input reads as it did. -/
def fnExactLiesFoundSpec : ChangeSpec := { name := "fnExactLiesFound", fn := fun _ => fun
  | [d] => { results := [.lit (.bool true)], args := [d] }
  | _ => none }
def fnExactLiesFoundRow : OpenClaim := { program := "ytpolobjlihhjbaa", sum := "d0ca0b8e47475c1c3461c3a61f931a1b30a48edcad98d8cf534ea39a97698288", func := "loop.example/g01305/laws.FnExactLiesFound", spec := "fnExactLiesFound", apart := false }
def FnExactLiesFoundSaid : Prop := fnExactLiesFoundRow.holds Try.pinned (OpenSpec.ofChange fnExactLiesFoundSpec)

/-- ITS FALSE NEIGHBOUR: 'it returns false'. Refute it at one input. -/
def fnExactLiesFoundWrong : ChangeSpec := { name := "fnExactLiesFound", fn := fun _ => fun
  | [d] => { results := [.lit (.bool false)], args := [d] }
  | _ => none }
def FnExactLiesFoundWrongFalsely : Prop := fnExactLiesFoundRow.holds Try.pinned (OpenSpec.ofChange fnExactLiesFoundWrong)

/-- 'laws.FnExactNumbersWithLies': WHATEVER THE INPUT: true; the input reads as it did. -/
def fnExactNumbersWithLiesSpec : ChangeSpec := { name := "fnExactNumbersWithLies", fn := fun _ => fun
  | [d1, d2, d3] => { results := [.lit (.bool true)], args := [d1, d2, d3] }
  | _ => none }
def fnExactNumbersWithLiesRow : OpenClaim := { program := "ytpolobjlihhjbaa", sum := "d0ca0b8e47475c1c3461c3a61f931a1b30a48edcad98d8cf534ea39a97698288", func := "loop.example/g01305/laws.FnExactNumbersWithLies", spec := "fnExactNumbersWithLies", apart := false }
def FnExactNumbersWithLiesSaid : Prop := fnExactNumbersWithLiesRow.holds Try.pinned (OpenSpec.ofChange fnExactNumbersWithLiesSpec)

/-- ITS FALSE NEIGHBOUR: 'it returns false'. Refute it at one input. -/
def fnExactNumbersWithLiesWrong : ChangeSpec := { name := "fnExactNumbersWithLies", fn := fun _ => fun
  | [d1, d2, d3] => { results := [.lit (.bool false)], args := [d1, d2, d3] }
  | _ => none }
def FnExactNumbersWithLiesWrongFalsely : Prop := fnExactNumbersWithLiesRow.holds Try.pinned (OpenSpec.ofChange fnExactNumbersWithLiesWrong)

/-- 'laws.FnExactLieTold': WHATEVER THE INPUT: true; the input reads as it did. -/
def fnExactLieToldSpec : ChangeSpec := { name := "fnExactLieTold", fn := fun _ => fun
  | [d1, d2] => { results := [.lit (.bool true)], args := [d1, d2] }
  | _ => none }
def fnExactLieToldRow : OpenClaim := { program := "ytpolobjlihhjbaa", sum := "d0ca0b8e47475c1c3461c3a61f931a1b30a48edcad98d8cf534ea39a97698288", func := "loop.example/g01305/laws.FnExactLieTold", spec := "fnExactLieTold", apart := false }
def FnExactLieToldSaid : Prop := fnExactLieToldRow.holds Try.pinned (OpenSpec.ofChange fnExactLieToldSpec)

/-- ITS FALSE NEIGHBOUR: 'it returns false'. Refute it at one input. -/
def fnExactLieToldWrong : ChangeSpec := { name := "fnExactLieTold", fn := fun _ => fun
  | [d1, d2] => { results := [.lit (.bool false)], args := [d1, d2] }
  | _ => none }
def FnExactLieToldWrongFalsely : Prop := fnExactLieToldRow.holds Try.pinned (OpenSpec.ofChange fnExactLieToldWrong)

/-- 'laws.FnExactCheckedCards': WHATEVER THE INPUT: true; the input reads as it did. -/
def fnExactCheckedCardsSpec : ChangeSpec := { name := "fnExactCheckedCards", fn := fun _ => fun
  | [d] => { results := [.lit (.bool true)], args := [d] }
  | _ => none }
def fnExactCheckedCardsRow : OpenClaim := { program := "ytpolobjlihhjbaa", sum := "d0ca0b8e47475c1c3461c3a61f931a1b30a48edcad98d8cf534ea39a97698288", func := "loop.example/g01305/laws.FnExactCheckedCards", spec := "fnExactCheckedCards", unfollowed := true, recurses := true, apart := false }
def FnExactCheckedCardsSaid : Prop := fnExactCheckedCardsRow.holds Try.pinned (OpenSpec.ofChange fnExactCheckedCardsSpec)

/-- ITS FALSE NEIGHBOUR: 'it returns false'. Refute it at one input. -/
def fnExactCheckedCardsWrong : ChangeSpec := { name := "fnExactCheckedCards", fn := fun _ => fun
  | [d] => { results := [.lit (.bool false)], args := [d] }
  | _ => none }
def FnExactCheckedCardsWrongFalsely : Prop := fnExactCheckedCardsRow.holds Try.pinned (OpenSpec.ofChange fnExactCheckedCardsWrong)

/-- 'laws.FnExactDropCard': WHATEVER THE INPUT: true; the input reads as it did. -/
def fnExactDropCardSpec : ChangeSpec := { name := "fnExactDropCard", fn := fun _ => fun
  | [d1, d2] => { results := [.lit (.bool true)], args := [d1, d2] }
  | _ => none }
def fnExactDropCardRow : OpenClaim := { program := "ytpolobjlihhjbaa", sum := "d0ca0b8e47475c1c3461c3a61f931a1b30a48edcad98d8cf534ea39a97698288", func := "loop.example/g01305/laws.FnExactDropCard", spec := "fnExactDropCard", apart := false }
def FnExactDropCardSaid : Prop := fnExactDropCardRow.holds Try.pinned (OpenSpec.ofChange fnExactDropCardSpec)

/-- ITS FALSE NEIGHBOUR: 'it returns false'. Refute it at one input. -/
def fnExactDropCardWrong : ChangeSpec := { name := "fnExactDropCard", fn := fun _ => fun
  | [d1, d2] => { results := [.lit (.bool false)], args := [d1, d2] }
  | _ => none }
def FnExactDropCardWrongFalsely : Prop := fnExactDropCardRow.holds Try.pinned (OpenSpec.ofChange fnExactDropCardWrong)

/-- 'laws.FnExactAddCard': WHATEVER THE INPUT: true; the input reads as it did. -/
def fnExactAddCardSpec : ChangeSpec := { name := "fnExactAddCard", fn := fun _ => fun
  | [d1, d2] => { results := [.lit (.bool true)], args := [d1, d2] }
  | _ => none }
def fnExactAddCardRow : OpenClaim := { program := "ytpolobjlihhjbaa", sum := "d0ca0b8e47475c1c3461c3a61f931a1b30a48edcad98d8cf534ea39a97698288", func := "loop.example/g01305/laws.FnExactAddCard", spec := "fnExactAddCard", apart := false }
def FnExactAddCardSaid : Prop := fnExactAddCardRow.holds Try.pinned (OpenSpec.ofChange fnExactAddCardSpec)

/-- ITS FALSE NEIGHBOUR: 'it returns false'. Refute it at one input. -/
def fnExactAddCardWrong : ChangeSpec := { name := "fnExactAddCard", fn := fun _ => fun
  | [d1, d2] => { results := [.lit (.bool false)], args := [d1, d2] }
  | _ => none }
def FnExactAddCardWrongFalsely : Prop := fnExactAddCardRow.holds Try.pinned (OpenSpec.ofChange fnExactAddCardWrong)

/-- 'laws.FnExactOtherCard': WHATEVER THE INPUT: true; the input reads as it did. -/
def fnExactOtherCardSpec : ChangeSpec := { name := "fnExactOtherCard", fn := fun _ => fun
  | [d1, d2] => { results := [.lit (.bool true)], args := [d1, d2] }
  | _ => none }
def fnExactOtherCardRow : OpenClaim := { program := "ytpolobjlihhjbaa", sum := "d0ca0b8e47475c1c3461c3a61f931a1b30a48edcad98d8cf534ea39a97698288", func := "loop.example/g01305/laws.FnExactOtherCard", spec := "fnExactOtherCard", apart := false }
def FnExactOtherCardSaid : Prop := fnExactOtherCardRow.holds Try.pinned (OpenSpec.ofChange fnExactOtherCardSpec)

/-- ITS FALSE NEIGHBOUR: 'it returns false'. Refute it at one input. -/
def fnExactOtherCardWrong : ChangeSpec := { name := "fnExactOtherCard", fn := fun _ => fun
  | [d1, d2] => { results := [.lit (.bool false)], args := [d1, d2] }
  | _ => none }
def FnExactOtherCardWrongFalsely : Prop := fnExactOtherCardRow.holds Try.pinned (OpenSpec.ofChange fnExactOtherCardWrong)

/-- 'laws.FnExactNeedlessCards': WHATEVER THE INPUT: true; the input reads as it did. -/
def fnExactNeedlessCardsSpec : ChangeSpec := { name := "fnExactNeedlessCards", fn := fun _ => fun
  | [d] => { results := [.lit (.bool true)], args := [d] }
  | _ => none }
def fnExactNeedlessCardsRow : OpenClaim := { program := "ytpolobjlihhjbaa", sum := "d0ca0b8e47475c1c3461c3a61f931a1b30a48edcad98d8cf534ea39a97698288", func := "loop.example/g01305/laws.FnExactNeedlessCards", spec := "fnExactNeedlessCards", apart := false }
def FnExactNeedlessCardsSaid : Prop := fnExactNeedlessCardsRow.holds Try.pinned (OpenSpec.ofChange fnExactNeedlessCardsSpec)

/-- ITS FALSE NEIGHBOUR: 'it returns false'. Refute it at one input. -/
def fnExactNeedlessCardsWrong : ChangeSpec := { name := "fnExactNeedlessCards", fn := fun _ => fun
  | [d] => { results := [.lit (.bool false)], args := [d] }
  | _ => none }
def FnExactNeedlessCardsWrongFalsely : Prop := fnExactNeedlessCardsRow.holds Try.pinned (OpenSpec.ofChange fnExactNeedlessCardsWrong)

/-- 'laws.FnExactFewestCardsFor': WHATEVER THE INPUT: true; the input reads as it did. -/
def fnExactFewestCardsForSpec : ChangeSpec := { name := "fnExactFewestCardsFor", fn := fun _ => fun
  | [d] => { results := [.lit (.bool true)], args := [d] }
  | _ => none }
def fnExactFewestCardsForRow : OpenClaim := { program := "ytpolobjlihhjbaa", sum := "d0ca0b8e47475c1c3461c3a61f931a1b30a48edcad98d8cf534ea39a97698288", func := "loop.example/g01305/laws.FnExactFewestCardsFor", spec := "fnExactFewestCardsFor", apart := false }
def FnExactFewestCardsForSaid : Prop := fnExactFewestCardsForRow.holds Try.pinned (OpenSpec.ofChange fnExactFewestCardsForSpec)

/-- ITS FALSE NEIGHBOUR: 'it returns false'. Refute it at one input. -/
def fnExactFewestCardsForWrong : ChangeSpec := { name := "fnExactFewestCardsFor", fn := fun _ => fun
  | [d] => { results := [.lit (.bool false)], args := [d] }
  | _ => none }
def FnExactFewestCardsForWrongFalsely : Prop := fnExactFewestCardsForRow.holds Try.pinned (OpenSpec.ofChange fnExactFewestCardsForWrong)

/-- 'laws.FnExactFirstsSum': WHATEVER THE INPUT: true; the input reads as it did. -/
def fnExactFirstsSumSpec : ChangeSpec := { name := "fnExactFirstsSum", fn := fun _ => fun
  | [d1, d2] => { results := [.lit (.bool true)], args := [d1, d2] }
  | _ => none }
def fnExactFirstsSumRow : OpenClaim := { program := "ytpolobjlihhjbaa", sum := "d0ca0b8e47475c1c3461c3a61f931a1b30a48edcad98d8cf534ea39a97698288", func := "loop.example/g01305/laws.FnExactFirstsSum", spec := "fnExactFirstsSum", apart := false }
def FnExactFirstsSumSaid : Prop := fnExactFirstsSumRow.holds Try.pinned (OpenSpec.ofChange fnExactFirstsSumSpec)

/-- ITS FALSE NEIGHBOUR: 'it returns false'. Refute it at one input. -/
def fnExactFirstsSumWrong : ChangeSpec := { name := "fnExactFirstsSum", fn := fun _ => fun
  | [d1, d2] => { results := [.lit (.bool false)], args := [d1, d2] }
  | _ => none }
def FnExactFirstsSumWrongFalsely : Prop := fnExactFirstsSumRow.holds Try.pinned (OpenSpec.ofChange fnExactFirstsSumWrong)

/-- 'laws.FnExactIsSumCards': WHATEVER THE INPUT: true; the input reads as it did. -/
def fnExactIsSumCardsSpec : ChangeSpec := { name := "fnExactIsSumCards", fn := fun _ => fun
  | [d] => { results := [.lit (.bool true)], args := [d] }
  | _ => none }
def fnExactIsSumCardsRow : OpenClaim := { program := "ytpolobjlihhjbaa", sum := "d0ca0b8e47475c1c3461c3a61f931a1b30a48edcad98d8cf534ea39a97698288", func := "loop.example/g01305/laws.FnExactIsSumCards", spec := "fnExactIsSumCards", apart := false }
def FnExactIsSumCardsSaid : Prop := fnExactIsSumCardsRow.holds Try.pinned (OpenSpec.ofChange fnExactIsSumCardsSpec)

/-- ITS FALSE NEIGHBOUR: 'it returns false'. Refute it at one input. -/
def fnExactIsSumCardsWrong : ChangeSpec := { name := "fnExactIsSumCards", fn := fun _ => fun
  | [d] => { results := [.lit (.bool false)], args := [d] }
  | _ => none }
def FnExactIsSumCardsWrongFalsely : Prop := fnExactIsSumCardsRow.holds Try.pinned (OpenSpec.ofChange fnExactIsSumCardsWrong)

/- THE SECOND FORM. 'bulk': how many values and letters a reading holds, each counted each time it is reached (what is shared counts as often as it is met; a slice's spare places count too). A statement '..UptoSaid' is the law's where the arguments, and the package variables that the reading takes, are together of bulk at most 1048576: NARROWER than '..Said'. Prove '..Said' where nothing that the law and all that it calls make is longer than what came in: it says more and counts as full. Else prove '..UptoSaid'. A law counts once. -/
mutual
def uptoBulk {H : Type} : DataW H → Nat
  | .lit (.string bytes) => bytes.length + 1
  | .lit _ => 1
  | .nil => 1
  | .ptr d => uptoBulk d + 1
  | .slice elems spare => uptoBulkAll elems + uptoBulkAll spare + 1
  | .agg parts => uptoBulkAll parts + 1
  | .iface _ d => uptoBulk d + 1
  | .map entries => uptoBulkEntries entries + 1
  | .held _ => 1
def uptoBulkAll {H : Type} : List (DataW H) → Nat
  | [] => 0
  | d :: r => uptoBulk d + uptoBulkAll r
def uptoBulkEntries {H : Type} : List (Lit × DataW H) → Nat
  | [] => 0
  | x :: r => uptoBulkEntry x + uptoBulkEntries r
def uptoBulkEntry {H : Type} : Lit × DataW H → Nat
  | (.string bytes, d) => bytes.length + uptoBulk d + 1
  | (_, d) => uptoBulk d + 1
 end
def uptoSmall : (H : Type) → List (DataW H) → Bool := fun _ ds => decide (uptoBulkAll ds ≤ 1048576)
def OpenSpec.upto (s : _root_.Go.ChangeSpec) : _root_.Go.OpenSpec := { _root_.Go.OpenSpec.ofChange s with cond := some uptoSmall }

/-- 'laws.FnExactAreCards', WHERE WHAT IT READS IS OF BULK AT MOST 1048576: true; the input reads as it did. -/
def fnExactAreCardsUptoRow : OpenClaim := { program := "ytpolobjlihhjbaa", sum := "d0ca0b8e47475c1c3461c3a61f931a1b30a48edcad98d8cf534ea39a97698288", func := "loop.example/g01305/laws.FnExactAreCards", spec := "fnExactAreCards", apart := false, narrowed := true }
def FnExactAreCardsUptoSaid : Prop := fnExactAreCardsUptoRow.holds Try.pinned (OpenSpec.upto fnExactAreCardsSpec)

/-- 'laws.FnExactBinaryCards', WHERE WHAT IT READS IS OF BULK AT MOST 1048576: true; the input reads as it did. -/
def fnExactBinaryCardsUptoRow : OpenClaim := { program := "ytpolobjlihhjbaa", sum := "d0ca0b8e47475c1c3461c3a61f931a1b30a48edcad98d8cf534ea39a97698288", func := "loop.example/g01305/laws.FnExactBinaryCards", spec := "fnExactBinaryCards", apart := false, narrowed := true }
def FnExactBinaryCardsUptoSaid : Prop := fnExactBinaryCardsUptoRow.holds Try.pinned (OpenSpec.upto fnExactBinaryCardsSpec)

/-- 'laws.FnExactAnswersOf', WHERE WHAT IT READS IS OF BULK AT MOST 1048576: true; the input reads as it did. -/
def fnExactAnswersOfUptoRow : OpenClaim := { program := "ytpolobjlihhjbaa", sum := "d0ca0b8e47475c1c3461c3a61f931a1b30a48edcad98d8cf534ea39a97698288", func := "loop.example/g01305/laws.FnExactAnswersOf", spec := "fnExactAnswersOf", apart := false, narrowed := true }
def FnExactAnswersOfUptoSaid : Prop := fnExactAnswersOfUptoRow.holds Try.pinned (OpenSpec.upto fnExactAnswersOfSpec)

/-- 'laws.FnExactNumbersTold', WHERE WHAT IT READS IS OF BULK AT MOST 1048576: true; the input reads as it did. -/
def fnExactNumbersToldUptoRow : OpenClaim := { program := "ytpolobjlihhjbaa", sum := "d0ca0b8e47475c1c3461c3a61f931a1b30a48edcad98d8cf534ea39a97698288", func := "loop.example/g01305/laws.FnExactNumbersTold", spec := "fnExactNumbersTold", apart := false, narrowed := true }
def FnExactNumbersToldUptoSaid : Prop := fnExactNumbersToldUptoRow.holds Try.pinned (OpenSpec.upto fnExactNumbersToldSpec)

/-- 'laws.FnExactTellsAll', WHERE WHAT IT READS IS OF BULK AT MOST 1048576: true; the input reads as it did. -/
def fnExactTellsAllUptoRow : OpenClaim := { program := "ytpolobjlihhjbaa", sum := "d0ca0b8e47475c1c3461c3a61f931a1b30a48edcad98d8cf534ea39a97698288", func := "loop.example/g01305/laws.FnExactTellsAll", spec := "fnExactTellsAll", apart := false, narrowed := true }
def FnExactTellsAllUptoSaid : Prop := fnExactTellsAllUptoRow.holds Try.pinned (OpenSpec.upto fnExactTellsAllSpec)

/-- 'laws.FnExactLeastApart', WHERE WHAT IT READS IS OF BULK AT MOST 1048576: true; the input reads as it did. -/
def fnExactLeastApartUptoRow : OpenClaim := { program := "ytpolobjlihhjbaa", sum := "d0ca0b8e47475c1c3461c3a61f931a1b30a48edcad98d8cf534ea39a97698288", func := "loop.example/g01305/laws.FnExactLeastApart", spec := "fnExactLeastApart", apart := false, narrowed := true }
def FnExactLeastApartUptoSaid : Prop := fnExactLeastApartUptoRow.holds Try.pinned (OpenSpec.upto fnExactLeastApartSpec)

/-- 'laws.FnExactLiesFound', WHERE WHAT IT READS IS OF BULK AT MOST 1048576: true; the input reads as it did. -/
def fnExactLiesFoundUptoRow : OpenClaim := { program := "ytpolobjlihhjbaa", sum := "d0ca0b8e47475c1c3461c3a61f931a1b30a48edcad98d8cf534ea39a97698288", func := "loop.example/g01305/laws.FnExactLiesFound", spec := "fnExactLiesFound", apart := false, narrowed := true }
def FnExactLiesFoundUptoSaid : Prop := fnExactLiesFoundUptoRow.holds Try.pinned (OpenSpec.upto fnExactLiesFoundSpec)

/-- 'laws.FnExactNumbersWithLies', WHERE WHAT IT READS IS OF BULK AT MOST 1048576: true; the input reads as it did. -/
def fnExactNumbersWithLiesUptoRow : OpenClaim := { program := "ytpolobjlihhjbaa", sum := "d0ca0b8e47475c1c3461c3a61f931a1b30a48edcad98d8cf534ea39a97698288", func := "loop.example/g01305/laws.FnExactNumbersWithLies", spec := "fnExactNumbersWithLies", apart := false, narrowed := true }
def FnExactNumbersWithLiesUptoSaid : Prop := fnExactNumbersWithLiesUptoRow.holds Try.pinned (OpenSpec.upto fnExactNumbersWithLiesSpec)

/-- 'laws.FnExactLieTold', WHERE WHAT IT READS IS OF BULK AT MOST 1048576: true; the input reads as it did. -/
def fnExactLieToldUptoRow : OpenClaim := { program := "ytpolobjlihhjbaa", sum := "d0ca0b8e47475c1c3461c3a61f931a1b30a48edcad98d8cf534ea39a97698288", func := "loop.example/g01305/laws.FnExactLieTold", spec := "fnExactLieTold", apart := false, narrowed := true }
def FnExactLieToldUptoSaid : Prop := fnExactLieToldUptoRow.holds Try.pinned (OpenSpec.upto fnExactLieToldSpec)

/-- 'laws.FnExactCheckedCards', WHERE WHAT IT READS IS OF BULK AT MOST 1048576: true; the input reads as it did. -/
def fnExactCheckedCardsUptoRow : OpenClaim := { program := "ytpolobjlihhjbaa", sum := "d0ca0b8e47475c1c3461c3a61f931a1b30a48edcad98d8cf534ea39a97698288", func := "loop.example/g01305/laws.FnExactCheckedCards", spec := "fnExactCheckedCards", unfollowed := true, recurses := true, apart := false, narrowed := true }
def FnExactCheckedCardsUptoSaid : Prop := fnExactCheckedCardsUptoRow.holds Try.pinned (OpenSpec.upto fnExactCheckedCardsSpec)

/-- 'laws.FnExactDropCard', WHERE WHAT IT READS IS OF BULK AT MOST 1048576: true; the input reads as it did. -/
def fnExactDropCardUptoRow : OpenClaim := { program := "ytpolobjlihhjbaa", sum := "d0ca0b8e47475c1c3461c3a61f931a1b30a48edcad98d8cf534ea39a97698288", func := "loop.example/g01305/laws.FnExactDropCard", spec := "fnExactDropCard", apart := false, narrowed := true }
def FnExactDropCardUptoSaid : Prop := fnExactDropCardUptoRow.holds Try.pinned (OpenSpec.upto fnExactDropCardSpec)

/-- 'laws.FnExactAddCard', WHERE WHAT IT READS IS OF BULK AT MOST 1048576: true; the input reads as it did. -/
def fnExactAddCardUptoRow : OpenClaim := { program := "ytpolobjlihhjbaa", sum := "d0ca0b8e47475c1c3461c3a61f931a1b30a48edcad98d8cf534ea39a97698288", func := "loop.example/g01305/laws.FnExactAddCard", spec := "fnExactAddCard", apart := false, narrowed := true }
def FnExactAddCardUptoSaid : Prop := fnExactAddCardUptoRow.holds Try.pinned (OpenSpec.upto fnExactAddCardSpec)

/-- 'laws.FnExactOtherCard', WHERE WHAT IT READS IS OF BULK AT MOST 1048576: true; the input reads as it did. -/
def fnExactOtherCardUptoRow : OpenClaim := { program := "ytpolobjlihhjbaa", sum := "d0ca0b8e47475c1c3461c3a61f931a1b30a48edcad98d8cf534ea39a97698288", func := "loop.example/g01305/laws.FnExactOtherCard", spec := "fnExactOtherCard", apart := false, narrowed := true }
def FnExactOtherCardUptoSaid : Prop := fnExactOtherCardUptoRow.holds Try.pinned (OpenSpec.upto fnExactOtherCardSpec)

/-- 'laws.FnExactNeedlessCards', WHERE WHAT IT READS IS OF BULK AT MOST 1048576: true; the input reads as it did. -/
def fnExactNeedlessCardsUptoRow : OpenClaim := { program := "ytpolobjlihhjbaa", sum := "d0ca0b8e47475c1c3461c3a61f931a1b30a48edcad98d8cf534ea39a97698288", func := "loop.example/g01305/laws.FnExactNeedlessCards", spec := "fnExactNeedlessCards", apart := false, narrowed := true }
def FnExactNeedlessCardsUptoSaid : Prop := fnExactNeedlessCardsUptoRow.holds Try.pinned (OpenSpec.upto fnExactNeedlessCardsSpec)

/-- 'laws.FnExactFewestCardsFor', WHERE WHAT IT READS IS OF BULK AT MOST 1048576: true; the input reads as it did. -/
def fnExactFewestCardsForUptoRow : OpenClaim := { program := "ytpolobjlihhjbaa", sum := "d0ca0b8e47475c1c3461c3a61f931a1b30a48edcad98d8cf534ea39a97698288", func := "loop.example/g01305/laws.FnExactFewestCardsFor", spec := "fnExactFewestCardsFor", apart := false, narrowed := true }
def FnExactFewestCardsForUptoSaid : Prop := fnExactFewestCardsForUptoRow.holds Try.pinned (OpenSpec.upto fnExactFewestCardsForSpec)

/-- 'laws.FnExactFirstsSum', WHERE WHAT IT READS IS OF BULK AT MOST 1048576: true; the input reads as it did. -/
def fnExactFirstsSumUptoRow : OpenClaim := { program := "ytpolobjlihhjbaa", sum := "d0ca0b8e47475c1c3461c3a61f931a1b30a48edcad98d8cf534ea39a97698288", func := "loop.example/g01305/laws.FnExactFirstsSum", spec := "fnExactFirstsSum", apart := false, narrowed := true }
def FnExactFirstsSumUptoSaid : Prop := fnExactFirstsSumUptoRow.holds Try.pinned (OpenSpec.upto fnExactFirstsSumSpec)

/-- 'laws.FnExactIsSumCards', WHERE WHAT IT READS IS OF BULK AT MOST 1048576: true; the input reads as it did. -/
def fnExactIsSumCardsUptoRow : OpenClaim := { program := "ytpolobjlihhjbaa", sum := "d0ca0b8e47475c1c3461c3a61f931a1b30a48edcad98d8cf534ea39a97698288", func := "loop.example/g01305/laws.FnExactIsSumCards", spec := "fnExactIsSumCards", apart := false, narrowed := true }
def FnExactIsSumCardsUptoSaid : Prop := fnExactIsSumCardsUptoRow.holds Try.pinned (OpenSpec.upto fnExactIsSumCardsSpec)

end Rows
end Go.Proofs.Ytpolobjlihhjbaa
