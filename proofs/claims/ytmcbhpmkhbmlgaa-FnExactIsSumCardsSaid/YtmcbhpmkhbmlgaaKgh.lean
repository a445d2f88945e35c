/-
  TellsAll, LeastApart and LiesFound in the model, by contracts. Conditions: at most 2^40 lists of at most 2^40 numbers.
-/
import Derived.Test.YtmcbhpmkhbmlgaaKgf
import Derived.Test.YtmcbhpmkhbmlgaaWst4
namespace Go.Proofs.Ytmcbhpmkhbmlgaa
open Go.RowKit

theorem ret_bb {a b c d : Bool} (h : a = b) (g : c = d) : Ending.returned (.tuple #[.bool a, .bool c]) = .returned (.tuple #[.bool b, .bool d]) := by rw [h, g]
theorem ret_ib {a b : Int} {c d : Bool} (h : a = b) (g : c = d) : Ending.returned (.tuple #[.int .i64 a, .bool c]) = .returned (.tuple #[.int .i64 b, .bool d]) := by rw [h, g]
end Go.Proofs.Ytmcbhpmkhbmlgaa
