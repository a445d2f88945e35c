/-
  Cards that tell, plainly: what cards are, answers, how far apart they are, and the numbers that they lead to. No condition; no program is spoken of here.
-/
import Derived.Test.YtgojlabkngnkdaaCpure
namespace Go.Proofs.Ytgojlabkngnkdaa

/-- Cards for n numbers: at most 12 increasing lists of numbers 0..n-1. -/
structure CaG (n : Int) (Ls : List (List Int)) : Prop where
  lo : 1 ≤ n
  hi : n ≤ 128
  len : Ls.length ≤ 12
  ris : ∀ j, j < Ls.length → RisTo (Ls.getD j []) 0 (n - 1) (Ls.getD j []).length
noncomputable def caB (n : Int) (Ls : List (List Int)) : Bool := @decide (CaG n Ls) (Classical.propDecidable _)
/-- The first k lists are cards. -/
def CaTo (n : Int) (Ls : List (List Int)) (k : Nat) : Prop := ∀ j, j < k → RisTo (Ls.getD j []) 0 (n - 1) (Ls.getD j []).length
theorem CaTo.zero (n : Int) (Ls : List (List Int)) : CaTo n Ls 0 := fun j h => by omega
theorem CaTo.succ {n : Int} {Ls : List (List Int)} {k : Nat} (h : CaTo n Ls k) (hk : risB (Ls.getD k []) 0 (n - 1) = true) : CaTo n Ls (k + 1) := fun j hj => by
  by_cases e : j = k
  · subst e; exact risB_iff.1 hk
  · exact h j (by omega)
/-- An increasing list of numbers less than n has at most n. -/
theorem ris_len {xs : List Int} {hi : Int} (h0 : 0 ≤ hi + 1) : ∀ k, RisTo xs 0 hi k → (k : Int) ≤ hi + 1 := by
  intro k
  cases k with
  | zero => intro _; simpa using h0
  | succ k =>
    intro h
    have : ∀ j, j ≤ k → (j : Int) ≤ xs.getD j 0 := by
      intro j
      induction j with
      | zero => intro _; exact (h.1 0 (by omega)).1
      | succ j ih => intro hj; have := ih (by omega); have := h.2 j (by omega); omega
    have h1 := this k (Nat.le_refl _)
    have h2 := (h.1 k (by omega)).2
    omega
theorem CaG.row {n : Int} {Ls : List (List Int)} (h : CaG n Ls) {j : Nat} (hj : j < Ls.length) : (Ls.getD j []).length ≤ 128 := by
  have := ris_len (by have := h.lo; omega) _ (h.ris j hj)
  have := h.hi
  omega

/-- A text is one of answers. -/
def YnTo (a : List UInt8) (k : Nat) : Prop := ∀ j, j < k → a.getD j 0 = 121 ∨ a.getD j 0 = 110
theorem YnTo.zero (a : List UInt8) : YnTo a 0 := fun j h => by omega
theorem YnTo.succ {a : List UInt8} {k : Nat} (h : YnTo a k) (hk : a.getD k 0 = 121 ∨ a.getD k 0 = 110) : YnTo a (k + 1) := fun j hj => by
  by_cases e : j = k
  · subst e; exact hk
  · exact h j (by omega)
end Go.Proofs.Ytgojlabkngnkdaa
