/-
  MakePuzzle in the model and in the program, by their contracts. Condition: at most 2^40 numbers in the list.
-/
import Derived.Test.YtgojlabkngnkdaaDoorYis
import Derived.Test.YtgojlabkngnkdaaDoorYvb
import Derived.Test.YtgojlabkngnkdaaDoorYca
namespace Go.Proofs.YtgojlabkngnkdaaDoor
open Go.RowKit

theorem flC_sole (c : Cl) (j : Nat) (y : Value) (h : (flC [c])[j]? = some y) : (#[Value.int .i64 c.k, .int .i64 c.a, .int .i64 c.b] : Array Value)[j]? = some y := by
  have e : flC [c] = [Value.int .i64 c.k, .int .i64 c.a, .int .i64 c.b] := rfl
  rw [e] at h
  simpa using h
theorem cs_one (w : World) (c : Cl) : Cs (w.alloc (.cells #[.int .i64 c.k, .int .i64 c.a, .int .i64 c.b] 73)) (.slice (some ⟨w.heap.size, 0, none⟩) 1 1) [c] := by
  refine .inr ⟨w.heap.size, 0, 1, rfl, by simp, fun j y hy => ?_⟩
  have hr := heap_alloc_new w (.cells #[.int .i64 c.k, .int .i64 c.a, .int .i64 c.b] 73)
  rw [cell_of_row _ _ _ _ _ _ hr]
  rw [Nat.zero_add]
  exact flC_sole c j y hy
end Go.Proofs.YtgojlabkngnkdaaDoor
