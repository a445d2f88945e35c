/-
  The sum of all pieces and the run, in the model and in the program, by their contracts. Conditions: the numbers are pieces (where they are not, the callers ask nothing).
-/
import Derived.Test.YtgojlabkngnkdaaDoorGood
namespace Go.Proofs.YtgojlabkngnkdaaDoor
open Go.RowKit

/-- The loop's state at the piece k: what is left leads to the same sum. -/
def SumAt (xs : List Int) (k : Nat) (s : Int) : Prop := sumFrom s (xs.drop k) = sumFrom 0 xs
def RunAt (xs : List Int) (k : Nat) (s : Int) : Prop := runFrom s (xs.drop k) = runFrom 0 xs
def sumP (xs : List Int) : Int := sumFrom 0 xs
def runP (xs : List Int) : Int := runFrom 0 xs

theorem SumAt.succ {xs : List Int} {k : Nat} {s x : Int} (h : SumAt xs k s) (hk : k < xs.length) (hx : xs.getD k 0 = x) : SumAt xs (k + 1) (s + x) := by
  unfold SumAt at *; rw [← h, sumFrom_step xs k hk s, hx]
theorem RunAt.succ {xs : List Int} {k : Nat} {s x : Int} (h : RunAt xs k s) (hk : k < xs.length) (hx : xs.getD k 0 = x) (hr : ¬ s + 1 < x) : RunAt xs (k + 1) (s + x) := by
  unfold RunAt at *; rw [← h, runFrom_step xs k hk s (by rw [hx]; exact hr), hx]
theorem Good.len {xs : List Int} (h : Good xs) : xs.length ≤ 20 := h.1
theorem sumFrom_bd : ∀ (l : List Int) (s : Int), (∀ x ∈ l, 1 ≤ x ∧ x ≤ 10000) → s ≤ sumFrom s l ∧ sumFrom s l ≤ s + 10000 * l.length := by
  intro l
  induction l with
  | nil => intro s _; simp [sumFrom]
  | cons a l ih =>
    intro s h
    have h1 := h a (by simp)
    have h2 := ih (s + a) fun x hx => h x (by simp [hx])
    simp only [sumFrom, List.length_cons]
    omega
theorem runFrom_bd : ∀ (l : List Int) (s : Int), (∀ x ∈ l, 1 ≤ x ∧ x ≤ 10000) → s ≤ runFrom s l ∧ runFrom s l ≤ s + 10000 * l.length := by
  intro l
  induction l with
  | nil => intro s _; simp [runFrom]
  | cons a l ih =>
    intro s h
    have h1 := h a (by simp)
    have h2 := ih (s + a) fun x hx => h x (by simp [hx])
    simp only [runFrom, List.length_cons]
    split <;> omega
theorem Good.mem {xs : List Int} (h : Good xs) : ∀ x ∈ xs, 1 ≤ x ∧ x ≤ 10000 := by
  intro x hx
  obtain ⟨k, hk, rfl⟩ := List.getElem_of_mem hx
  have := h.2.1 k hk
  rwa [List.getD_eq_getElem?_getD, List.getElem?_eq_getElem hk] at this
theorem Good.sum {xs : List Int} (h : Good xs) : 0 ≤ sumP xs ∧ sumP xs ≤ 200000 := by
  have h1 := sumFrom_bd xs 0 h.mem; have h2 := h.len; unfold sumP; omega
theorem Good.run {xs : List Int} (h : Good xs) : 0 ≤ runP xs ∧ runP xs ≤ 200000 := by
  have h1 := runFrom_bd xs 0 h.mem; have h2 := h.len; unfold runP; omega

end Go.Proofs.YtgojlabkngnkdaaDoor
