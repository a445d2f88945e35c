/-
  DERIVED. GIVEN WITH THE SEED: THE CARDS: each row of YtaihgdecoaajoaaDoorRows.lean that lists a variable, with what it lists TIED to the program's text (the seventh form; the later family's looks); each row that meets fmt, with fmt's text TOLD by the authors' own Lean function (tested against real Go, not proved from fmt's source: count such statements apart). THE CARD IS WHAT COUNTS. Prove the row's statement (the work); the ties are given (YtaihgdecoaajoaaDoorTie.lean); close each card by the builder's one call (the guide's Derived/Test/ToyasCard.lean, 'card_holds'). Laid BY PROGRAM, IN A SANDBOX (cutbox-door.mjs). By AI agents, Wed Nov 11 2026. No macro, syntax, notation, axiom, sorry.
-/
import Derived.Test.YtaihgdecoaajoaaDoorRows
import GoSem.ClaimSeven
namespace Go.Proofs.YtaihgdecoaajoaaDoor
namespace Rows

/-- THE TIED CARD OF 'laws.FnExactRulerText'. -/
def fnExactRulerTextCard : Claim7 := { stood := { row := fnExactRulerTextRow, standIns := [], harness := (true, "78894782149f33d42f594a58109c99f355c8db912ec59beb5d3a5b3cb09e55b0"), looks := true }, kinds := [], alts := [], laidByText := true, laidKinds := [.data, .data, .data], laidTests := true, laidLooks := .later }
def FnExactRulerTextCardSaid : Prop := Claim7.holds Tryd.pinned (.plain (OpenSpec.ofChange fnExactRulerTextSpec)) fnExactRulerTextCard

/-- THE TIED CARD OF 'laws.FnExactParseRuler'. -/
def fnExactParseRulerCard : Claim7 := { stood := { row := fnExactParseRulerRow, standIns := [], harness := (true, "78894782149f33d42f594a58109c99f355c8db912ec59beb5d3a5b3cb09e55b0"), looks := true }, kinds := [], alts := [], laidByText := true, laidKinds := [.data, .data, .data, .data, .sentinel, .sentinel, .pinned], laidTests := true, laidLooks := .later }
def FnExactParseRulerCardSaid : Prop := Claim7.holds Tryd.pinned (.plain (OpenSpec.ofChange fnExactParseRulerSpec)) fnExactParseRulerCard

/-- THE TIED CARD OF 'laws.FnExactPiecesText'. -/
def fnExactPiecesTextCard : Claim7 := { stood := { row := fnExactPiecesTextRow, standIns := [], harness := (true, "78894782149f33d42f594a58109c99f355c8db912ec59beb5d3a5b3cb09e55b0"), looks := true }, kinds := [], alts := [], laidByText := true, laidKinds := [.data, .data, .data], laidTests := true, laidLooks := .later }
def FnExactPiecesTextCardSaid : Prop := Claim7.holds Tryd.pinned (.plain (OpenSpec.ofChange fnExactPiecesTextSpec)) fnExactPiecesTextCard

/-- THE TIED CARD OF 'laws.FnExactParsePieces'. -/
def fnExactParsePiecesCard : Claim7 := { stood := { row := fnExactParsePiecesRow, standIns := [], harness := (true, "78894782149f33d42f594a58109c99f355c8db912ec59beb5d3a5b3cb09e55b0"), looks := true }, kinds := [], alts := [], laidByText := true, laidKinds := [.data, .data, .data, .data, .sentinel, .sentinel, .pinned], laidTests := true, laidLooks := .later }
def FnExactParsePiecesCardSaid : Prop := Claim7.holds Tryd.pinned (.plain (OpenSpec.ofChange fnExactParsePiecesSpec)) fnExactParsePiecesCard

/-- THE SECOND FORM's CARD OF 'laws.FnExactRulerText'. -/
def fnExactRulerTextUptoCard : Claim7 := { stood := { row := fnExactRulerTextUptoRow, standIns := [], harness := (true, "78894782149f33d42f594a58109c99f355c8db912ec59beb5d3a5b3cb09e55b0"), looks := true }, kinds := [], alts := [], laidByText := true, laidKinds := [.data, .data, .data], laidTests := true, laidLooks := .later }
def FnExactRulerTextUptoCardSaid : Prop := Claim7.holds Tryd.pinned (.plain (OpenSpec.upto fnExactRulerTextSpec)) fnExactRulerTextUptoCard

/-- THE SECOND FORM's CARD OF 'laws.FnExactParseRuler'. -/
def fnExactParseRulerUptoCard : Claim7 := { stood := { row := fnExactParseRulerUptoRow, standIns := [], harness := (true, "78894782149f33d42f594a58109c99f355c8db912ec59beb5d3a5b3cb09e55b0"), looks := true }, kinds := [], alts := [], laidByText := true, laidKinds := [.data, .data, .data, .data, .sentinel, .sentinel, .pinned], laidTests := true, laidLooks := .later }
def FnExactParseRulerUptoCardSaid : Prop := Claim7.holds Tryd.pinned (.plain (OpenSpec.upto fnExactParseRulerSpec)) fnExactParseRulerUptoCard

/-- THE SECOND FORM's CARD OF 'laws.FnExactPiecesText'. -/
def fnExactPiecesTextUptoCard : Claim7 := { stood := { row := fnExactPiecesTextUptoRow, standIns := [], harness := (true, "78894782149f33d42f594a58109c99f355c8db912ec59beb5d3a5b3cb09e55b0"), looks := true }, kinds := [], alts := [], laidByText := true, laidKinds := [.data, .data, .data], laidTests := true, laidLooks := .later }
def FnExactPiecesTextUptoCardSaid : Prop := Claim7.holds Tryd.pinned (.plain (OpenSpec.upto fnExactPiecesTextSpec)) fnExactPiecesTextUptoCard

/-- THE SECOND FORM's CARD OF 'laws.FnExactParsePieces'. -/
def fnExactParsePiecesUptoCard : Claim7 := { stood := { row := fnExactParsePiecesUptoRow, standIns := [], harness := (true, "78894782149f33d42f594a58109c99f355c8db912ec59beb5d3a5b3cb09e55b0"), looks := true }, kinds := [], alts := [], laidByText := true, laidKinds := [.data, .data, .data, .data, .sentinel, .sentinel, .pinned], laidTests := true, laidLooks := .later }
def FnExactParsePiecesUptoCardSaid : Prop := Claim7.holds Tryd.pinned (.plain (OpenSpec.upto fnExactParsePiecesSpec)) fnExactParsePiecesUptoCard
end Rows
end Go.Proofs.YtaihgdecoaajoaaDoor
