/-
  Lists of cards are few: lengths. No condition but good cards.
-/
import Derived.Test.YtcgifmoddojnmabKgp
namespace Go.Proofs.Ytcgifmoddojnmab
open Go.RowKit

theorem Few2.len {pl : List (List Int)} (h : Few2 pl) : pl.length ≤ 1048576 := by unfold Few2 at h; omega
theorem Few2.tot {pl : List (List Int)} (h : Few2 pl) : tot pl pl.length ≤ 1048576 := by unfold Few2 at h; omega
theorem tot_row_le {pl : List (List Int)} {c : Nat} (h : ∀ j, j < pl.length → (rowL pl j).length ≤ c) : ∀ k, k ≤ pl.length → Go.Proofs.Ytcgifmoddojnmab.tot pl k ≤ c * k := by
  intro k
  induction k with
  | zero => intro _; simp [Go.Proofs.Ytcgifmoddojnmab.tot]
  | succ k ih =>
    intro hk
    have := ih (by omega)
    have := h k (by omega)
    simp only [Go.Proofs.Ytcgifmoddojnmab.tot]
    rw [Nat.mul_succ]
    omega
theorem few2_nil : Few2 [] := by simp [Few2, Go.Proofs.Ytcgifmoddojnmab.tot]
end Go.Proofs.Ytcgifmoddojnmab
