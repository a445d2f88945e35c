/-
  The clue of a kind about pieces, in the model, by its contract. Conditions: pieces; a kind of 0 to 5; a sum or length not below 0.
-/
import Derived.Test.YtgojlabkngnkdaaDoorYis
import Derived.Test.YtgojlabkngnkdaaDoorCat
import Derived.Test.YtgojlabkngnkdaaDoorNum
import Derived.Laws.MathBits
import Derived.Laws.BitsAllLaws
import Derived.Laws.CopyOwn
import Derived.Deep.RegionWith
import Derived.Deep.RegionHeld3
import Derived.IntWalk
import Derived.Test.YtgojlabkngnkdaaDoorTab
import Derived.Test.YtgojlabkngnkdaaDoorCatb
namespace Go.Proofs.YtgojlabkngnkdaaDoor
open Go.RowKit

theorem cells3_of {w : World} {b : Nat} {x y z : Value} {t : TypeId} (h : w.heap[b]? = some (.cells #[x, y, z] t (0, 0))) :
    w.cell? ⟨b, 0, none⟩ = some x ∧ w.cell? ⟨b, 1, none⟩ = some y ∧ w.cell? ⟨b, 2, none⟩ = some z ∧ w.frozen? ⟨b, 0, none⟩ = false ∧ w.frozen? ⟨b, 1, none⟩ = false ∧ w.frozen? ⟨b, 2, none⟩ = false :=
  ⟨by rw [cell_of_row _ _ _ _ _ _ h]; rfl, by rw [cell_of_row _ _ _ _ _ _ h]; rfl, by rw [cell_of_row _ _ _ _ _ _ h]; rfl, frozen_of_row _ _ _ _ _ h, frozen_of_row _ _ _ _ _ h, frozen_of_row _ _ _ _ _ h⟩
end Go.Proofs.YtgojlabkngnkdaaDoor
