/-
  Numerals read and written, and what a text of pieces reads as: the two ways to tell it agree. No program in this text.
-/
import Derived.Test.YtgojlabkngnkdaaDoorPspD
namespace Go.Proofs.YtgojlabkngnkdaaDoor
open Go.RowKit

theorem digits_len (k : Nat) : ∀ n, n < 10 ^ (k + 1) → (Lib.decDigits n).length ≤ k + 1 := by
  induction k with
  | zero => intro n h; rw [Lib.decDigits_one (by omega)]; simp
  | succ k ih =>
    intro n h
    by_cases h2 : n < 10
    · rw [Lib.decDigits_one h2]; simp
    · rw [Lib.decDigits.eq_1 n, dif_neg h2]
      have := ih (n / 10) (by rw [Nat.div_lt_iff_lt_mul (by omega)]; rw [Nat.pow_succ] at h; exact h)
      simp; omega
/-- The program's way: each word is read by the library's Atoi; the list must have the text. V: what the first words read as. -/
def AtTo (l : List UInt8) (k : Nat) (V : List Int) : Prop := V.length = k ∧ ∀ j, j < k → ∀ w, (splitW l)[j]? = some w → Lib.atoiAll w = .ok (V.getD j 0)
theorem AtTo.zero (l : List UInt8) : AtTo l 0 [] := ⟨rfl, fun j h => by omega⟩
end Go.Proofs.YtgojlabkngnkdaaDoor
