/-
  A deck of cards in the program: made of lists, by contract. Condition: there are cards.
-/
import Derived.Test.YtgojlabkngnkdaaQc
import Derived.Test.YtgojlabkngnkdaaKga
import Derived.Deep.AppendLies
namespace Go.Proofs.Ytgojlabkngnkdaa
open Go.RowKit

theorem Try.deckU : ∃ fs, Try.prog.underlying 69 = some (.struct fs) := ⟨_, Try.underlying69⟩
theorem Try.deckI : (Try.prog.info? 69).map (·.size) = some 2 := by kernel_rfl
theorem pair_set {w : World} {g : Nat} {x y : Value} {t : TypeId} (h : w.heap[g]? = some (.cells #[x, y] t (0, 0))) (u : Value) : (w.setCell ⟨g, 1, none⟩ u).heap[g]? = some (.cells #[x, u] t (0, 0)) :=
  heap_setCell_same w g 1 _ _ u h
end Go.Proofs.Ytgojlabkngnkdaa
