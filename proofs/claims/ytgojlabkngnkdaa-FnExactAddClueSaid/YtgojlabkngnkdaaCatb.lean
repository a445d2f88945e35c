/-
  The library's Concat of slices of integers and its BinarySearch in sorted integers, by their contracts. Conditions: at most 100 slices of at most 2^20 numbers; sorted numbers.
-/
import Derived.Test.YtgojlabkngnkdaaCat
import Derived.Test.YtgojlabkngnkdaaNum
namespace Go.Proofs.Ytgojlabkngnkdaa
open Go.RowKit

theorem Good.mono {xs : List Int} (h : Good xs) : ∀ (d i : Nat), i + d < xs.length → xs.getD i 0 ≤ xs.getD (i + d) 0 := by
  intro d
  induction d with
  | zero => intro i _; exact Int.le_refl _
  | succ d ih => intro i hi; exact Int.le_trans (ih i (by omega)) (h.2.2 (i + d) (by omega))
end Go.Proofs.Ytgojlabkngnkdaa
