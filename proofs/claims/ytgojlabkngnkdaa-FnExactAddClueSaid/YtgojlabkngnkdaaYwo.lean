/-
  Clues without one, in the model and in the program, by their contracts. Conditions: at most 1,024 clues; an index of one.
-/
import Derived.Test.YtgojlabkngnkdaaYca
import Derived.Test.YtgojlabkngnkdaaYsl
import Derived.Deep.RegionLaw
import Derived.Deep.RegionHeld3
import Derived.Deep.CutRange
namespace Go.Proofs.Ytgojlabkngnkdaa
open Go.RowKit

theorem ckE (w : World) : Ck (w.alloc (.cells #[] 54)) w.heap.size (.slice (some ⟨w.heap.size, 0, none⟩) 0 0) [] :=
  World.ownsRow_made w #[] 0 (Nat.le_refl _) (by unfold maxLen; omega) rfl

end Go.Proofs.Ytgojlabkngnkdaa
