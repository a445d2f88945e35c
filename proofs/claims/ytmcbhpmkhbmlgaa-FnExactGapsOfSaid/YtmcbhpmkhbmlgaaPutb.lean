/-
  PutPiece in the model and in the program, by their contracts: both give the same pieces. Conditions: none but a slice that isn't nil (the law copies what comes in).
-/
import Derived.Test.YtmcbhpmkhbmlgaaPut
namespace Go.Proofs.Ytmcbhpmkhbmlgaa
open Go.RowKit

theorem ow_nil (w : World) (B : Nat) : Ow w B (.slice none 0 0) [] := World.ownsRow_nil _ _ _ _
theorem ret_lb {u v : Value} {c d : Bool} (h : u = v) (g : c = d) : Ending.returned (.tuple #[u, .bool c]) = .returned (.tuple #[v, .bool d]) := by rw [h, g]

end Go.Proofs.Ytmcbhpmkhbmlgaa
