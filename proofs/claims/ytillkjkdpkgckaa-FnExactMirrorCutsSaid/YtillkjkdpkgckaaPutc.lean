/-
  A piece is put in, in the model and in the program, by their contracts. Conditions: none on the law but a length that fits int.
-/
import Derived.Test.YtillkjkdpkgckaaCatc
import Derived.BigRegion
namespace Go.Proofs.Ytillkjkdpkgckaa
open Go.RowKit

def GtFrom (xs : List Int) (n : Int) (k : Nat) : Prop := ∀ j, k ≤ j → j < xs.length → n < xs.getD j 0
theorem GtFrom.step {xs : List Int} {n x : Int} {k : Nat} (h : GtFrom xs n (k + 1)) (hx : xs.getD k 0 = x) (hn : n < x) : GtFrom xs n k := by
  intro j hj hl
  by_cases e : j = k
  · subst e; rw [hx]; exact hn
  · exact h j (by omega) hl
theorem src_one (w : World) (n : Int) : Src (w.alloc (.cells #[.int .i64 n] 3)) (.slice (some ⟨w.heap.size, 0, none⟩) 1 1) [n] := by
  refine .inr ⟨w.heap.size, 0, 1, rfl, by simp, fun j hj => ?_⟩
  obtain rfl : j = 0 := by simpa using hj
  have h := heap_alloc_new w (.cells #[.int .i64 n] 3)
  simp only [World.cell?, h]
  rfl

end Go.Proofs.Ytillkjkdpkgckaa
