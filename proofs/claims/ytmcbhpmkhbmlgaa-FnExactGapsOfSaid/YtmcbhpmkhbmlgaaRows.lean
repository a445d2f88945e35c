/-
  No cell of these rows narrows 'for every input' (looked for: loops, veiled, ifaces, maps, wideKeys, modest, calm, conditions, laid).
  DERIVED. THE GIVEN ROWS OF THIS SEAT. 7 by the template 'for every input the law returns true; each argument reads behind the call as it read before'; 0 by the template 'total and deterministic' (their statements: YtmcbhpmkhbmlgaaTotals.lean).
  GIVEN WITH THE SEED: the statements are not yours to turn. If you find one false, say at which input.
  Laid BY PROGRAM, IN A SANDBOX (cutbox-rows.mjs): the forced cells as the released guide's own fill.sh prints them over the translation 274e02fd4660c484… (all of the seat's roots in one cut). By AI agents, Wed Nov 11 2026. No macro, syntax, notation, axiom, sorry.
-/
import Derived.Test.YtmcbhpmkhbmlgaaChecked
import GoSem.Claim
import GoSem.ClaimJoined
import GoSem.ClaimMapViews
import Derived.JoinedTies
import Derived.KernelRfl
namespace Go.Proofs.Ytmcbhpmkhbmlgaa
/- THE CELL 'sum', in the pinned program and in every row, IS THE sha256 OF THE DUMP (.gsa) THAT YtmcbhpmkhbmlgaaProg.lean LOADS. Nothing in Lean hashes anything: it is a label: what it is worth is what the hold of that sum in a sandbox is worth. -/
noncomputable def Try.pinned : Pinned := { name := "ytmcbhpmkhbmlgaa", sum := "274e02fd4660c4849361eaa9bd0fb781278f2af92793a8b542bb60b4d84ffa88", checked := Try.checked }
namespace Rows
def none {H : Type} : Left H := { results := [], args := [] }

/-- 'laws.FnExactCountSums': WHATEVER THE INPUT: true; the input reads as it did. -/
def fnExactCountSumsSpec : ChangeSpec := { name := "fnExactCountSums", fn := fun _ => fun
  | [d] => { results := [.lit (.bool true)], args := [d] }
  | _ => none }
def fnExactCountSumsRow : OpenClaim := { program := "ytmcbhpmkhbmlgaa", sum := "274e02fd4660c4849361eaa9bd0fb781278f2af92793a8b542bb60b4d84ffa88", func := "loop.example/g01305/laws.FnExactCountSums", spec := "fnExactCountSums", apart := false }
def FnExactCountSumsSaid : Prop := fnExactCountSumsRow.holds Try.pinned (OpenSpec.ofChange fnExactCountSumsSpec)

/-- ITS FALSE NEIGHBOUR: 'it returns false'. Refute it at one input. -/
def fnExactCountSumsWrong : ChangeSpec := { name := "fnExactCountSums", fn := fun _ => fun
  | [d] => { results := [.lit (.bool false)], args := [d] }
  | _ => none }
def FnExactCountSumsWrongFalsely : Prop := fnExactCountSumsRow.holds Try.pinned (OpenSpec.ofChange fnExactCountSumsWrong)

/-- 'laws.FnExactGapsOf': WHATEVER THE INPUT: true; the input reads as it did. -/
def fnExactGapsOfSpec : ChangeSpec := { name := "fnExactGapsOf", fn := fun _ => fun
  | [d] => { results := [.lit (.bool true)], args := [d] }
  | _ => none }
def fnExactGapsOfRow : OpenClaim := { program := "ytmcbhpmkhbmlgaa", sum := "274e02fd4660c4849361eaa9bd0fb781278f2af92793a8b542bb60b4d84ffa88", func := "loop.example/g01305/laws.FnExactGapsOf", spec := "fnExactGapsOf", apart := false }
def FnExactGapsOfSaid : Prop := fnExactGapsOfRow.holds Try.pinned (OpenSpec.ofChange fnExactGapsOfSpec)

/-- ITS FALSE NEIGHBOUR: 'it returns false'. Refute it at one input. -/
def fnExactGapsOfWrong : ChangeSpec := { name := "fnExactGapsOf", fn := fun _ => fun
  | [d] => { results := [.lit (.bool false)], args := [d] }
  | _ => none }
def FnExactGapsOfWrongFalsely : Prop := fnExactGapsOfRow.holds Try.pinned (OpenSpec.ofChange fnExactGapsOfWrong)

/-- 'laws.FnExactNumbersTold': WHATEVER THE INPUT: true; the input reads as it did. -/
def fnExactNumbersToldSpec : ChangeSpec := { name := "fnExactNumbersTold", fn := fun _ => fun
  | [d1, d2] => { results := [.lit (.bool true)], args := [d1, d2] }
  | _ => none }
def fnExactNumbersToldRow : OpenClaim := { program := "ytmcbhpmkhbmlgaa", sum := "274e02fd4660c4849361eaa9bd0fb781278f2af92793a8b542bb60b4d84ffa88", func := "loop.example/g01305/laws.FnExactNumbersTold", spec := "fnExactNumbersTold", inPlace := ["internal/bytealg.IndexByteString", "internal/bytealg.IndexString"], named := ["internal/bytealg.MaxLen"], apart := false }
def FnExactNumbersToldSaid : Prop := fnExactNumbersToldRow.holds Try.pinned (OpenSpec.ofChange fnExactNumbersToldSpec)

/-- ITS FALSE NEIGHBOUR: 'it returns false'. Refute it at one input. -/
def fnExactNumbersToldWrong : ChangeSpec := { name := "fnExactNumbersTold", fn := fun _ => fun
  | [d1, d2] => { results := [.lit (.bool false)], args := [d1, d2] }
  | _ => none }
def FnExactNumbersToldWrongFalsely : Prop := fnExactNumbersToldRow.holds Try.pinned (OpenSpec.ofChange fnExactNumbersToldWrong)

/-- 'laws.FnExactNumbersWithLies': WHATEVER THE INPUT: true; the input reads as it did. -/
def fnExactNumbersWithLiesSpec : ChangeSpec := { name := "fnExactNumbersWithLies", fn := fun _ => fun
  | [d1, d2, d3] => { results := [.lit (.bool true)], args := [d1, d2, d3] }
  | _ => none }
def fnExactNumbersWithLiesRow : OpenClaim := { program := "ytmcbhpmkhbmlgaa", sum := "274e02fd4660c4849361eaa9bd0fb781278f2af92793a8b542bb60b4d84ffa88", func := "loop.example/g01305/laws.FnExactNumbersWithLies", spec := "fnExactNumbersWithLies", inPlace := ["internal/bytealg.IndexByteString", "internal/bytealg.IndexString"], named := ["internal/bytealg.MaxLen"], apart := false }
def FnExactNumbersWithLiesSaid : Prop := fnExactNumbersWithLiesRow.holds Try.pinned (OpenSpec.ofChange fnExactNumbersWithLiesSpec)

/-- ITS FALSE NEIGHBOUR: 'it returns false'. Refute it at one input. -/
def fnExactNumbersWithLiesWrong : ChangeSpec := { name := "fnExactNumbersWithLies", fn := fun _ => fun
  | [d1, d2, d3] => { results := [.lit (.bool false)], args := [d1, d2, d3] }
  | _ => none }
def FnExactNumbersWithLiesWrongFalsely : Prop := fnExactNumbersWithLiesRow.holds Try.pinned (OpenSpec.ofChange fnExactNumbersWithLiesWrong)

/-- 'laws.FnExactLieTold': WHATEVER THE INPUT: true; the input reads as it did. -/
def fnExactLieToldSpec : ChangeSpec := { name := "fnExactLieTold", fn := fun _ => fun
  | [d1, d2] => { results := [.lit (.bool true)], args := [d1, d2] }
  | _ => none }
def fnExactLieToldRow : OpenClaim := { program := "ytmcbhpmkhbmlgaa", sum := "274e02fd4660c4849361eaa9bd0fb781278f2af92793a8b542bb60b4d84ffa88", func := "loop.example/g01305/laws.FnExactLieTold", spec := "fnExactLieTold", inPlace := ["internal/bytealg.IndexByteString", "internal/bytealg.IndexString"], named := ["internal/bytealg.MaxLen"], apart := false }
def FnExactLieToldSaid : Prop := fnExactLieToldRow.holds Try.pinned (OpenSpec.ofChange fnExactLieToldSpec)

/-- ITS FALSE NEIGHBOUR: 'it returns false'. Refute it at one input. -/
def fnExactLieToldWrong : ChangeSpec := { name := "fnExactLieTold", fn := fun _ => fun
  | [d1, d2] => { results := [.lit (.bool false)], args := [d1, d2] }
  | _ => none }
def FnExactLieToldWrongFalsely : Prop := fnExactLieToldRow.holds Try.pinned (OpenSpec.ofChange fnExactLieToldWrong)

/-- 'laws.FnExactFirstsSum': WHATEVER THE INPUT: true; the input reads as it did. -/
def fnExactFirstsSumSpec : ChangeSpec := { name := "fnExactFirstsSum", fn := fun _ => fun
  | [d1, d2] => { results := [.lit (.bool true)], args := [d1, d2] }
  | _ => none }
def fnExactFirstsSumRow : OpenClaim := { program := "ytmcbhpmkhbmlgaa", sum := "274e02fd4660c4849361eaa9bd0fb781278f2af92793a8b542bb60b4d84ffa88", func := "loop.example/g01305/laws.FnExactFirstsSum", spec := "fnExactFirstsSum", inPlace := ["internal/bytealg.IndexByteString", "internal/bytealg.IndexString"], named := ["internal/bytealg.MaxLen"], apart := false }
def FnExactFirstsSumSaid : Prop := fnExactFirstsSumRow.holds Try.pinned (OpenSpec.ofChange fnExactFirstsSumSpec)

/-- ITS FALSE NEIGHBOUR: 'it returns false'. Refute it at one input. -/
def fnExactFirstsSumWrong : ChangeSpec := { name := "fnExactFirstsSum", fn := fun _ => fun
  | [d1, d2] => { results := [.lit (.bool false)], args := [d1, d2] }
  | _ => none }
def FnExactFirstsSumWrongFalsely : Prop := fnExactFirstsSumRow.holds Try.pinned (OpenSpec.ofChange fnExactFirstsSumWrong)

/-- 'laws.FnExactIsSumCards': WHATEVER THE INPUT: true; the input reads as it did. -/
def fnExactIsSumCardsSpec : ChangeSpec := { name := "fnExactIsSumCards", fn := fun _ => fun
  | [d] => { results := [.lit (.bool true)], args := [d] }
  | _ => none }
def fnExactIsSumCardsRow : OpenClaim := { program := "ytmcbhpmkhbmlgaa", sum := "274e02fd4660c4849361eaa9bd0fb781278f2af92793a8b542bb60b4d84ffa88", func := "loop.example/g01305/laws.FnExactIsSumCards", spec := "fnExactIsSumCards", inPlace := ["internal/bytealg.IndexByteString", "internal/bytealg.IndexString"], named := ["internal/bytealg.MaxLen"], apart := false }
def FnExactIsSumCardsSaid : Prop := fnExactIsSumCardsRow.holds Try.pinned (OpenSpec.ofChange fnExactIsSumCardsSpec)

/-- ITS FALSE NEIGHBOUR: 'it returns false'. Refute it at one input. -/
def fnExactIsSumCardsWrong : ChangeSpec := { name := "fnExactIsSumCards", fn := fun _ => fun
  | [d] => { results := [.lit (.bool false)], args := [d] }
  | _ => none }
def FnExactIsSumCardsWrongFalsely : Prop := fnExactIsSumCardsRow.holds Try.pinned (OpenSpec.ofChange fnExactIsSumCardsWrong)

/- THE SECOND FORM. 'bulk': how many values and letters a reading holds, each counted each time it is reached (what is shared counts as often as it is met; a slice's spare places count too). A statement '..UptoSaid' is the law's where the arguments, and the package variables that the reading takes, are together of bulk at most 1048576: NARROWER than '..Said'. Prove '..Said' where nothing that the law and all that it calls make is longer than what came in: it says more and counts as full. Else prove '..UptoSaid'. A law counts once. -/
mutual
def uptoBulk {H : Type} : DataW H → Nat
  | .lit (.string bytes) => bytes.length + 1
  | .lit _ => 1
  | .nil => 1
  | .ptr d => uptoBulk d + 1
  | .slice elems spare => uptoBulkAll elems + uptoBulkAll spare + 1
  | .agg parts => uptoBulkAll parts + 1
  | .iface _ d => uptoBulk d + 1
  | .map entries => uptoBulkEntries entries + 1
  | .held _ => 1
def uptoBulkAll {H : Type} : List (DataW H) → Nat
  | [] => 0
  | d :: r => uptoBulk d + uptoBulkAll r
def uptoBulkEntries {H : Type} : List (Lit × DataW H) → Nat
  | [] => 0
  | x :: r => uptoBulkEntry x + uptoBulkEntries r
def uptoBulkEntry {H : Type} : Lit × DataW H → Nat
  | (.string bytes, d) => bytes.length + uptoBulk d + 1
  | (_, d) => uptoBulk d + 1
 end
def uptoSmall : (H : Type) → List (DataW H) → Bool := fun _ ds => decide (uptoBulkAll ds ≤ 1048576)
def OpenSpec.upto (s : _root_.Go.ChangeSpec) : _root_.Go.OpenSpec := { _root_.Go.OpenSpec.ofChange s with cond := some uptoSmall }

/-- 'laws.FnExactCountSums', WHERE WHAT IT READS IS OF BULK AT MOST 1048576: true; the input reads as it did. -/
def fnExactCountSumsUptoRow : OpenClaim := { program := "ytmcbhpmkhbmlgaa", sum := "274e02fd4660c4849361eaa9bd0fb781278f2af92793a8b542bb60b4d84ffa88", func := "loop.example/g01305/laws.FnExactCountSums", spec := "fnExactCountSums", apart := false, narrowed := true }
def FnExactCountSumsUptoSaid : Prop := fnExactCountSumsUptoRow.holds Try.pinned (OpenSpec.upto fnExactCountSumsSpec)

/-- 'laws.FnExactGapsOf', WHERE WHAT IT READS IS OF BULK AT MOST 1048576: true; the input reads as it did. -/
def fnExactGapsOfUptoRow : OpenClaim := { program := "ytmcbhpmkhbmlgaa", sum := "274e02fd4660c4849361eaa9bd0fb781278f2af92793a8b542bb60b4d84ffa88", func := "loop.example/g01305/laws.FnExactGapsOf", spec := "fnExactGapsOf", apart := false, narrowed := true }
def FnExactGapsOfUptoSaid : Prop := fnExactGapsOfUptoRow.holds Try.pinned (OpenSpec.upto fnExactGapsOfSpec)

/-- 'laws.FnExactNumbersTold', WHERE WHAT IT READS IS OF BULK AT MOST 1048576: true; the input reads as it did. -/
def fnExactNumbersToldUptoRow : OpenClaim := { program := "ytmcbhpmkhbmlgaa", sum := "274e02fd4660c4849361eaa9bd0fb781278f2af92793a8b542bb60b4d84ffa88", func := "loop.example/g01305/laws.FnExactNumbersTold", spec := "fnExactNumbersTold", inPlace := ["internal/bytealg.IndexByteString", "internal/bytealg.IndexString"], named := ["internal/bytealg.MaxLen"], apart := false, narrowed := true }
def FnExactNumbersToldUptoSaid : Prop := fnExactNumbersToldUptoRow.holds Try.pinned (OpenSpec.upto fnExactNumbersToldSpec)

/-- 'laws.FnExactNumbersWithLies', WHERE WHAT IT READS IS OF BULK AT MOST 1048576: true; the input reads as it did. -/
def fnExactNumbersWithLiesUptoRow : OpenClaim := { program := "ytmcbhpmkhbmlgaa", sum := "274e02fd4660c4849361eaa9bd0fb781278f2af92793a8b542bb60b4d84ffa88", func := "loop.example/g01305/laws.FnExactNumbersWithLies", spec := "fnExactNumbersWithLies", inPlace := ["internal/bytealg.IndexByteString", "internal/bytealg.IndexString"], named := ["internal/bytealg.MaxLen"], apart := false, narrowed := true }
def FnExactNumbersWithLiesUptoSaid : Prop := fnExactNumbersWithLiesUptoRow.holds Try.pinned (OpenSpec.upto fnExactNumbersWithLiesSpec)

/-- 'laws.FnExactLieTold', WHERE WHAT IT READS IS OF BULK AT MOST 1048576: true; the input reads as it did. -/
def fnExactLieToldUptoRow : OpenClaim := { program := "ytmcbhpmkhbmlgaa", sum := "274e02fd4660c4849361eaa9bd0fb781278f2af92793a8b542bb60b4d84ffa88", func := "loop.example/g01305/laws.FnExactLieTold", spec := "fnExactLieTold", inPlace := ["internal/bytealg.IndexByteString", "internal/bytealg.IndexString"], named := ["internal/bytealg.MaxLen"], apart := false, narrowed := true }
def FnExactLieToldUptoSaid : Prop := fnExactLieToldUptoRow.holds Try.pinned (OpenSpec.upto fnExactLieToldSpec)

/-- 'laws.FnExactFirstsSum', WHERE WHAT IT READS IS OF BULK AT MOST 1048576: true; the input reads as it did. -/
def fnExactFirstsSumUptoRow : OpenClaim := { program := "ytmcbhpmkhbmlgaa", sum := "274e02fd4660c4849361eaa9bd0fb781278f2af92793a8b542bb60b4d84ffa88", func := "loop.example/g01305/laws.FnExactFirstsSum", spec := "fnExactFirstsSum", inPlace := ["internal/bytealg.IndexByteString", "internal/bytealg.IndexString"], named := ["internal/bytealg.MaxLen"], apart := false, narrowed := true }
def FnExactFirstsSumUptoSaid : Prop := fnExactFirstsSumUptoRow.holds Try.pinned (OpenSpec.upto fnExactFirstsSumSpec)

/-- 'laws.FnExactIsSumCards', WHERE WHAT IT READS IS OF BULK AT MOST 1048576: true; the input reads as it did. -/
def fnExactIsSumCardsUptoRow : OpenClaim := { program := "ytmcbhpmkhbmlgaa", sum := "274e02fd4660c4849361eaa9bd0fb781278f2af92793a8b542bb60b4d84ffa88", func := "loop.example/g01305/laws.FnExactIsSumCards", spec := "fnExactIsSumCards", inPlace := ["internal/bytealg.IndexByteString", "internal/bytealg.IndexString"], named := ["internal/bytealg.MaxLen"], apart := false, narrowed := true }
def FnExactIsSumCardsUptoSaid : Prop := fnExactIsSumCardsUptoRow.holds Try.pinned (OpenSpec.upto fnExactIsSumCardsSpec)

end Rows
end Go.Proofs.Ytmcbhpmkhbmlgaa
