/-
  Small words: what is returned, numbers within bounds, pieces; the model's test of bounds. No condition.
-/
import Derived.Test.YtgojlabkngnkdaaPure
import Derived.Test.YtgojlabkngnkdaaBase
namespace Go.Proofs.Ytgojlabkngnkdaa
open Go.RowKit

theorem ret_bool {a b : Bool} (h : a = b) : Ending.returned (.bool a) = .returned (.bool b) := by rw [h]
theorem ret_int {k : IntKind} {a b : Int} (h : a = b) : Ending.returned (.int k a) = .returned (.int k b) := by rw [h]

def inB (n lo hi : Int) : Bool := decide (lo ≤ n) && decide (n ≤ hi)
def AllTo (xs : List Int) (lo hi : Int) (k : Nat) : Prop := ∀ j, j < k → inB (xs.getD j 0) lo hi = true
def UpTo (xs : List Int) (k : Nat) : Prop := ∀ j, j + 1 < k → xs.getD j 0 ≤ xs.getD (j + 1) 0
/-- .. told from the other end. -/
def DownTo (xs : List Int) (k : Nat) : Prop := ∀ j, k ≤ j → j + 1 < xs.length → xs.getD j 0 ≤ xs.getD (j + 1) 0
theorem inB_iff {n lo hi : Int} : inB n lo hi = true ↔ lo ≤ n ∧ n ≤ hi := by simp [inB]
theorem AllTo.succ {xs : List Int} {lo hi : Int} {k : Nat} (h : AllTo xs lo hi k) (hk : inB (xs.getD k 0) lo hi = true) : AllTo xs lo hi (k + 1) := by
  intro j hj
  by_cases e : j = k
  · subst e; exact hk
  · exact h j (by omega)
theorem UpTo.succ {xs : List Int} {k : Nat} (h : UpTo xs (k + 1)) (hk : xs.getD k 0 ≤ xs.getD (k + 1) 0) : UpTo xs (k + 2) := by
  intro j hj
  by_cases e : j = k
  · subst e; exact hk
  · exact h j (by omega)
theorem DownTo.step {xs : List Int} {k : Nat} (h : DownTo xs (k + 1)) (hk : xs.getD k 0 ≤ xs.getD (k + 1) 0) : DownTo xs k := by
  intro j hj hl
  by_cases e : j = k
  · subst e; exact hk
  · exact h j (by omega) hl
theorem l1In_any (n lo hi : Int) (w : World) : Calls Try.prog 37 #[.int .i64 n, .int .i64 lo, .int .i64 hi] w fun e w' => e = .returned (.bool (inB n lo hi)) ∧ w = w' := by
  by_cases h : lo ≤ n
  · have h1 : decide (lo ≤ n) = true := by simpa using h
    go_enter Try.func37, Try.ntmps37
    go_wp2
    go_ret
    exact ⟨by simp [inB, h], rfl⟩
  · have h1 : decide (lo ≤ n) = false := by simpa using h
    go_enter Try.func37, Try.ntmps37
    go_wp2
    go_ret
    exact ⟨ret_bool (by simp [inB]; omega), rfl⟩


end Go.Proofs.Ytgojlabkngnkdaa
