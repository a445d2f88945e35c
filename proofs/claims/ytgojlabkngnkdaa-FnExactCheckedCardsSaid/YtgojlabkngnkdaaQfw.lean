/-
  Lists of cards are few: lengths. No condition but good cards.
-/
import Derived.Test.YtgojlabkngnkdaaKgp
namespace Go.Proofs.Ytgojlabkngnkdaa
open Go.RowKit

theorem Few2.len {pl : List (List Int)} (h : Few2 pl) : pl.length ≤ 1048576 := by unfold Few2 at h; omega
theorem Few2.tot {pl : List (List Int)} (h : Few2 pl) : tot pl pl.length ≤ 1048576 := by unfold Few2 at h; omega
theorem tot_row_le {pl : List (List Int)} {c : Nat} (h : ∀ j, j < pl.length → (rowL pl j).length ≤ c) : ∀ k, k ≤ pl.length → Go.Proofs.Ytgojlabkngnkdaa.tot pl k ≤ c * k := by
  intro k
  induction k with
  | zero => intro _; simp [Go.Proofs.Ytgojlabkngnkdaa.tot]
  | succ k ih =>
    intro hk
    have := ih (by omega)
    have := h k (by omega)
    simp only [Go.Proofs.Ytgojlabkngnkdaa.tot]
    rw [Nat.mul_succ]
    omega
theorem few2_nil : Few2 [] := by simp [Few2, Go.Proofs.Ytgojlabkngnkdaa.tot]
end Go.Proofs.Ytgojlabkngnkdaa
