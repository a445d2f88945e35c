/-
  slices.Max and slices.Min of integers, by their contracts; slices.Index. Conditions: one number at least (Max, Min), at most 2^40.
-/
import Derived.Test.YtgojlabkngnkdaaDoorMark
import Derived.Test.YtgojlabkngnkdaaDoorGood
namespace Go.Proofs.YtgojlabkngnkdaaDoor
open Go.RowKit

/-- What stands in the first k numbers the greatest. -/
def MaxTo (ys : List Int) (k : Nat) (m : Int) : Prop := (∀ j, j < k → ys.getD j 0 ≤ m) ∧ ∃ j, j < k ∧ ys.getD j 0 = m
theorem MaxTo.less {ys : List Int} {k : Nat} {m x : Int} (h : MaxTo ys k m) (hx : ys.getD k 0 = x) (hm : m ≤ x) : MaxTo ys (k + 1) x :=
  ⟨fun j hj => by
    by_cases e : j = k
    · subst e; omega
    · have := h.1 j (by omega); omega, k, by omega, hx⟩
/-- What stands in the first k numbers the least. -/
def MinTo (ys : List Int) (k : Nat) (m : Int) : Prop := (∀ j, j < k → m ≤ ys.getD j 0) ∧ ∃ j, j < k ∧ ys.getD j 0 = m
theorem MinTo.less {ys : List Int} {k : Nat} {m x : Int} (h : MinTo ys k m) (hx : ys.getD k 0 = x) (hm : x ≤ m) : MinTo ys (k + 1) x :=
  ⟨fun j hj => by
    by_cases e : j = k
    · subst e; omega
    · have := h.1 j (by omega); omega, k, by omega, hx⟩
end Go.Proofs.YtgojlabkngnkdaaDoor
