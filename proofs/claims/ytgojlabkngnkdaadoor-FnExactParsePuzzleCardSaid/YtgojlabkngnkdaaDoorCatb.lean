/-
  The library's Concat of slices of integers and its BinarySearch in sorted integers, by their contracts. Conditions: at most 100 slices of at most 2^20 numbers; sorted numbers.
-/
import Derived.Test.YtgojlabkngnkdaaDoorCat
import Derived.Test.YtgojlabkngnkdaaDoorNum
namespace Go.Proofs.YtgojlabkngnkdaaDoor
open Go.RowKit

def LoTo (xs : List Int) (n : Int) (k : Nat) : Prop := ∀ j, j < k → xs.getD j 0 < n
def HiFrom (xs : List Int) (n : Int) (k : Nat) : Prop := ∀ j, k ≤ j → j < xs.length → n ≤ xs.getD j 0
theorem Good.mono {xs : List Int} (h : Good xs) : ∀ (d i : Nat), i + d < xs.length → xs.getD i 0 ≤ xs.getD (i + d) 0 := by
  intro d
  induction d with
  | zero => intro i _; exact Int.le_refl _
  | succ d ih => intro i hi; exact Int.le_trans (ih i (by omega)) (h.2.2 (i + d) (by omega))
theorem Good.le {xs : List Int} (h : Good xs) {i j : Nat} (hij : i ≤ j) (hj : j < xs.length) : xs.getD i 0 ≤ xs.getD j 0 := by
  have := h.mono (j - i) i (by omega)
  rwa [show i + (j - i) = j by omega] at this
theorem LoTo.step {xs : List Int} {n x : Int} {m : Nat} (hg : Good xs) (hm : m < xs.length) (hx : xs.getD m 0 = x) (h : x < n) : LoTo xs n (m + 1) := by
  intro j hj
  have := hg.le (show j ≤ m by omega) hm
  omega
theorem HiFrom.step {xs : List Int} {n x : Int} {m : Nat} (hg : Good xs) (hx : xs.getD m 0 = x) (h : ¬ x < n) : HiFrom xs n m := by
  intro j hj hl
  have := hg.le hj hl
  omega

end Go.Proofs.YtgojlabkngnkdaaDoor
