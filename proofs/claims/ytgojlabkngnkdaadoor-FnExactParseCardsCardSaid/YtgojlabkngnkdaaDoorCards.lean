/-
  DERIVED. GIVEN WITH THE SEED: THE CARDS: each row of YtgojlabkngnkdaaDoorRows.lean that lists a variable, with what it lists TIED to the program's text (the seventh form; the later family's looks); each row that meets fmt, with fmt's text TOLD by the authors' own Lean function (tested against real Go, not proved from fmt's source: count such statements apart). THE CARD IS WHAT COUNTS. Prove the row's statement (the work); the ties are given (YtgojlabkngnkdaaDoorTie.lean); close each card by the builder's one call (the guide's Derived/Test/ToyasCard.lean, 'card_holds'). Laid BY PROGRAM, IN A SANDBOX (cutbox-door.mjs). By AI agents, Wed Nov 11 2026. No macro, syntax, notation, axiom, sorry.
-/
import Derived.Test.YtgojlabkngnkdaaDoorRows
import GoSem.ClaimSeven
namespace Go.Proofs.YtgojlabkngnkdaaDoor
namespace Rows

/-- THE TIED CARD OF 'laws.FnExactCardsText'. -/
def fnExactCardsTextCard : Claim7 := { stood := { row := fnExactCardsTextRow, standIns := [], harness := (true, "555030ae2c8dce6dbc750b509d6b8cbfef697a39e4ce1f43c00b54d7b78d8150"), looks := true }, kinds := [], alts := [], laidByText := true, laidKinds := [.data, .data, .data], laidTests := true, laidLooks := .later }
def FnExactCardsTextCardSaid : Prop := Claim7.holds Tryd.pinned (.plain (OpenSpec.ofChange fnExactCardsTextSpec)) fnExactCardsTextCard

/-- THE TIED CARD OF 'laws.FnExactParseCards'. -/
def fnExactParseCardsCard : Claim7 := { stood := { row := fnExactParseCardsRow, standIns := [], harness := (true, "555030ae2c8dce6dbc750b509d6b8cbfef697a39e4ce1f43c00b54d7b78d8150"), looks := true }, kinds := [], alts := [], laidByText := true, laidKinds := [.data, .data, .data, .data, .sentinel, .sentinel, .pinned], laidTests := true, laidLooks := .later }
def FnExactParseCardsCardSaid : Prop := Claim7.holds Tryd.pinned (.plain (OpenSpec.ofChange fnExactParseCardsSpec)) fnExactParseCardsCard

/-- THE TIED CARD OF 'laws.FnExactPuzzleText'. -/
def fnExactPuzzleTextCard : Claim7 := { stood := { row := fnExactPuzzleTextRow, standIns := [], harness := (true, "555030ae2c8dce6dbc750b509d6b8cbfef697a39e4ce1f43c00b54d7b78d8150"), looks := true }, kinds := [], alts := [], laidByText := true, laidKinds := [.data, .data, .data], laidTests := true, laidLooks := .later }
def FnExactPuzzleTextCardSaid : Prop := Claim7.holds Tryd.pinned (.plain (OpenSpec.ofChange fnExactPuzzleTextSpec)) fnExactPuzzleTextCard

/-- THE TIED CARD OF 'laws.FnExactParsePuzzle'. -/
def fnExactParsePuzzleCard : Claim7 := { stood := { row := fnExactParsePuzzleRow, standIns := [], harness := (true, "555030ae2c8dce6dbc750b509d6b8cbfef697a39e4ce1f43c00b54d7b78d8150"), looks := true }, kinds := [], alts := [], laidByText := true, laidKinds := [.data, .data, .data, .data, .sentinel, .sentinel, .pinned], laidTests := true, laidLooks := .later }
def FnExactParsePuzzleCardSaid : Prop := Claim7.holds Tryd.pinned (.plain (OpenSpec.ofChange fnExactParsePuzzleSpec)) fnExactParsePuzzleCard

/-- THE SECOND FORM's CARD OF 'laws.FnExactCardsText'. -/
def fnExactCardsTextUptoCard : Claim7 := { stood := { row := fnExactCardsTextUptoRow, standIns := [], harness := (true, "555030ae2c8dce6dbc750b509d6b8cbfef697a39e4ce1f43c00b54d7b78d8150"), looks := true }, kinds := [], alts := [], laidByText := true, laidKinds := [.data, .data, .data], laidTests := true, laidLooks := .later }
def FnExactCardsTextUptoCardSaid : Prop := Claim7.holds Tryd.pinned (.plain (OpenSpec.upto fnExactCardsTextSpec)) fnExactCardsTextUptoCard

/-- THE SECOND FORM's CARD OF 'laws.FnExactParseCards'. -/
def fnExactParseCardsUptoCard : Claim7 := { stood := { row := fnExactParseCardsUptoRow, standIns := [], harness := (true, "555030ae2c8dce6dbc750b509d6b8cbfef697a39e4ce1f43c00b54d7b78d8150"), looks := true }, kinds := [], alts := [], laidByText := true, laidKinds := [.data, .data, .data, .data, .sentinel, .sentinel, .pinned], laidTests := true, laidLooks := .later }
def FnExactParseCardsUptoCardSaid : Prop := Claim7.holds Tryd.pinned (.plain (OpenSpec.upto fnExactParseCardsSpec)) fnExactParseCardsUptoCard

/-- THE SECOND FORM's CARD OF 'laws.FnExactPuzzleText'. -/
def fnExactPuzzleTextUptoCard : Claim7 := { stood := { row := fnExactPuzzleTextUptoRow, standIns := [], harness := (true, "555030ae2c8dce6dbc750b509d6b8cbfef697a39e4ce1f43c00b54d7b78d8150"), looks := true }, kinds := [], alts := [], laidByText := true, laidKinds := [.data, .data, .data], laidTests := true, laidLooks := .later }
def FnExactPuzzleTextUptoCardSaid : Prop := Claim7.holds Tryd.pinned (.plain (OpenSpec.upto fnExactPuzzleTextSpec)) fnExactPuzzleTextUptoCard

/-- THE SECOND FORM's CARD OF 'laws.FnExactParsePuzzle'. -/
def fnExactParsePuzzleUptoCard : Claim7 := { stood := { row := fnExactParsePuzzleUptoRow, standIns := [], harness := (true, "555030ae2c8dce6dbc750b509d6b8cbfef697a39e4ce1f43c00b54d7b78d8150"), looks := true }, kinds := [], alts := [], laidByText := true, laidKinds := [.data, .data, .data, .data, .sentinel, .sentinel, .pinned], laidTests := true, laidLooks := .later }
def FnExactParsePuzzleUptoCardSaid : Prop := Claim7.holds Tryd.pinned (.plain (OpenSpec.upto fnExactParsePuzzleSpec)) fnExactParsePuzzleUptoCard
end Rows
end Go.Proofs.YtgojlabkngnkdaaDoor
