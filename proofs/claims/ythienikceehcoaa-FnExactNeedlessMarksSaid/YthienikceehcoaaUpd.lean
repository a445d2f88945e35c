/-
  The run of a ruler, whether it is complete, and whether it is sparse, in the program, by their contracts. Condition: a ruler.
-/
import Derived.Test.YthienikceehcoaaUpc
namespace Go.Proofs.Ythienikceehcoaa
open Go.RowKit

/-- What stands in the first k numbers the greatest. -/
def MaxTo (ys : List Int) (k : Nat) (m : Int) : Prop := (∀ j, j < k → ys.getD j 0 ≤ m) ∧ ∃ j, j < k ∧ ys.getD j 0 = m
theorem MaxTo.less {ys : List Int} {k : Nat} {m x : Int} (h : MaxTo ys k m) (hx : ys.getD k 0 = x) (hm : m ≤ x) : MaxTo ys (k + 1) x :=
  ⟨fun j hj => by
    by_cases e : j = k
    · subst e; omega
    · have := h.1 j (by omega); omega, k, by omega, hx⟩
theorem MaxTo.more {ys : List Int} {k : Nat} {m x : Int} (h : MaxTo ys k m) (hx : ys.getD k 0 = x) (hm : x ≤ m) : MaxTo ys (k + 1) m :=
  ⟨fun j hj => by
    by_cases e : j = k
    · subst e; omega
    · exact h.1 j (by omega), by obtain ⟨j, hj, e⟩ := h.2; exact ⟨j, by omega, e⟩⟩
end Go.Proofs.Ythienikceehcoaa
