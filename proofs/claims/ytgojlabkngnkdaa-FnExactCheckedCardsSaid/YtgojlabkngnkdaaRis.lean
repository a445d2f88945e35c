/-
  Whether numbers increase within bounds: the model's test, by its contract. Condition: slices of at most 2^40 numbers.
-/
import Derived.Test.YtgojlabkngnkdaaCat4
import Derived.Test.YtgojlabkngnkdaaRpu
namespace Go.Proofs.Ytgojlabkngnkdaa
open Go.RowKit

theorem src_one (w : World) (n : Int) : Src (w.alloc (.cells #[.int .i64 n] 3)) (.slice (some ⟨w.heap.size, 0, none⟩) 1 1) [n] := by
  refine .inr ⟨w.heap.size, 0, 1, rfl, by simp, fun j hj => ?_⟩
  obtain rfl : j = 0 := by simpa using hj
  have h := heap_alloc_new w (.cells #[.int .i64 n] 3)
  simp only [World.cell?, h]
  rfl
end Go.Proofs.Ytgojlabkngnkdaa
