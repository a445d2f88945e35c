/-
  In how many ways numbers are made: the model's table of ways, by its contracts. Condition: pieces.
-/
import Derived.Test.YtgojlabkngnkdaaDoorNum
import Derived.Test.YtgojlabkngnkdaaDoorMark
import Derived.RegionTactic
import Derived.BigRegion
namespace Go.Proofs.YtgojlabkngnkdaaDoor
open Go.RowKit

theorem Good.take {xs : List Int} (h : Good xs) (k : Nat) : ∀ x ∈ xs.take k, 1 ≤ x ∧ x ≤ 10000 := fun x hx => h.mem x (List.mem_of_mem_take hx)

end Go.Proofs.YtgojlabkngnkdaaDoor
