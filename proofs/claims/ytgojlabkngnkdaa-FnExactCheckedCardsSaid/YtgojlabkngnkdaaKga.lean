/-
  Cards in the model: what they are, the answers of a number, by contracts. Conditions: at most 2^40 lists of at most 2^40 numbers.
-/
import Derived.Test.YtgojlabkngnkdaaKpu
import Derived.Test.YtgojlabkngnkdaaPsl4
import Derived.Test.YtgojlabkngnkdaaRis
namespace Go.Proofs.Ytgojlabkngnkdaa
open Go.RowKit

theorem svv_form {w : World} {v : Value} {Ls : List (List Int)} (h : Svv w v Ls) : ∃ p cap, v = .slice p Ls.length cap := by
  obtain ⟨p, cap, e, _⟩ := h
  exact ⟨p, cap, e⟩

theorem card_n (w : World) (n : Int) (v : Value) : (w.alloc (.cells #[.int .i64 n, v] 36)).cell? ⟨w.heap.size, 0, none⟩ = some (.int .i64 n) := by
  have h := heap_alloc_new w (.cells #[.int .i64 n, v] 36)
  simp only [World.cell?, h]; rfl
end Go.Proofs.Ytgojlabkngnkdaa
