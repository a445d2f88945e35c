/-
  All solutions, in the model: a function that calls itself and appends through a pointer, by its contract. Conditions: clues; hidden pieces.
-/
import Derived.Test.YtgojlabkngnkdaaYro
import Derived.Test.YtgojlabkngnkdaaYpu
import Derived.Test.YtgojlabkngnkdaaYvb
import Derived.Deep.RegionHeld3
import Derived.Test.YtgojlabkngnkdaaCat
namespace Go.Proofs.Ytgojlabkngnkdaa
open Go.RowKit

theorem Lf.grown {B r : Nat} {w w1 w2 : World} {row : Option Nat} (h : Lf B r w w1) (k : w1.grownBy w2 row) (b : Below B w1 w2) (hrow : ∀ g, row = some g → ∃ c q, w1.heap[g]? = some (.cells c 22 q)) : Lf B r w w2 :=
  h.trans ⟨b, fun i hi _ ht => k.block i hi fun e => by obtain ⟨c, q, hc⟩ := hrow i e.symm; exact ht c q hc⟩
end Go.Proofs.Ytgojlabkngnkdaa
