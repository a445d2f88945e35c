/-
  All solutions are few: so many rows, so many numbers. No condition.
-/
import Derived.Test.YtphjiicdodkfbaaYsa
import Derived.Test.YtphjiicdodkfbaaPsm4
namespace Go.Proofs.Ytphjiicdodkfbaa
open Go.RowKit

theorem Few2.len9 {pl : List (List Int)} (h : Few2 pl) : pl.length ≤ 1048576 := by unfold Few2 at h; omega
theorem Few2.tot9 {pl : List (List Int)} (h : Few2 pl) : tot pl pl.length ≤ 1048576 := by unfold Few2 at h; omega
theorem tot_le9 (pl : List (List Int)) (B : Nat) (h : ∀ j, j < pl.length → (rowL pl j).length ≤ B) : ∀ k, k ≤ pl.length → tot pl k ≤ k * B
  | 0, _ => by simp [tot]
  | k + 1, hk => by
    have h1 := tot_le9 pl B h k (by omega)
    have h2 := h k (by omega)
    rw [tot, Nat.succ_mul]; omega
theorem slR_few (cs : List Cl) : Few2 (slR cs) := by
  have hb := slR_bd cs
  have hr : ∀ j, j < (slR cs).length → (rowL (slR cs) j).length ≤ 4 := by
    intro j hj
    unfold slR at hj ⊢
    split at hj
    · next e => rw [if_pos e]; exact (solL_row hj).1
    · simp at hj
  have := tot_le9 _ 4 hr _ (Nat.le_refl _)
  unfold Few2
  omega
end Go.Proofs.Ytphjiicdodkfbaa
