/-
  Slices of slices of integers of the call's own are marked; what else is the call's own stays. Condition: at most 2^20 numbers in all.
-/
import Derived.Test.YtgojlabkngnkdaaDoorPsm4
import Derived.Test.YtgojlabkngnkdaaDoorCat
namespace Go.Proofs.YtgojlabkngnkdaaDoor
open Go.RowKit

theorem Oww.le {w : World} {B D : Nat} {v : Value} {pl : List (List Int)} (h : Oww w B D v pl) : B ≤ w.heap.size := by
  obtain ⟨g, U, bs, hv, hg, hrow, _⟩ := h
  have := hrow.lt
  omega

end Go.Proofs.YtgojlabkngnkdaaDoor
