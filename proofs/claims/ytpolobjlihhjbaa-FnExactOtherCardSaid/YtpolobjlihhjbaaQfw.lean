/-
  Lists of cards are few: lengths. No condition but good cards.
-/
import Derived.Test.YtpolobjlihhjbaaKgp
namespace Go.Proofs.Ytpolobjlihhjbaa
open Go.RowKit

theorem Few2.len {pl : List (List Int)} (h : Few2 pl) : pl.length ≤ 1048576 := by unfold Few2 at h; omega
theorem Few2.tot {pl : List (List Int)} (h : Few2 pl) : tot pl pl.length ≤ 1048576 := by unfold Few2 at h; omega
theorem tot_row_le {pl : List (List Int)} {c : Nat} (h : ∀ j, j < pl.length → (rowL pl j).length ≤ c) : ∀ k, k ≤ pl.length → Go.Proofs.Ytpolobjlihhjbaa.tot pl k ≤ c * k := by
  intro k
  induction k with
  | zero => intro _; simp [Go.Proofs.Ytpolobjlihhjbaa.tot]
  | succ k ih =>
    intro hk
    have := ih (by omega)
    have := h k (by omega)
    simp only [Go.Proofs.Ytpolobjlihhjbaa.tot]
    rw [Nat.mul_succ]
    omega
theorem CaG.few2 {n : Int} {Ls : List (List Int)} (g : CaG n Ls) : Few2 Ls := by
  have h := tot_row_le (c := 128) (fun j hj => g.row hj) Ls.length (Nat.le_refl _)
  have := g.len
  unfold Few2
  omega
theorem few2_nil : Few2 [] := by simp [Few2, Go.Proofs.Ytpolobjlihhjbaa.tot]
theorem dcR_few (n : Int) (Ls : List (List Int)) (k : Int) : Few2 (dcR n Ls k) := by
  unfold dcR
  split
  · rename_i h
    unfold dcB at h
    rw [Bool.and_eq_true] at h
    exact ((caB_iff.1 h.1).erase _).few2
  · exact few2_nil
end Go.Proofs.Ytpolobjlihhjbaa
