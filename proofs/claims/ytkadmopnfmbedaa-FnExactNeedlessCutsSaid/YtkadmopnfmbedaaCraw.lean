/-
  Plain lists of integers: the program's array of parts, cell by cell. No condition; no program is spoken of here.
-/
import Derived.Test.YtkadmopnfmbedaaCmore
namespace Go.Proofs.Ytkadmopnfmbedaa

def frF (f : Int) (l : List Int) : Nat → Int
  | 0 => f
  | k + 1 => l.getD k 0 + 1
theorem frF_free (xs : List Int) (k : Nat) : frF 0 xs k = freeAt xs k := by cases k <;> rfl
theorem preR_at : ∀ (l : List Int) (f : Int) (k : Nat), k < l.length → (preR f l).getD (2 * k) 0 = l.getD k 0 - frF f l k ∧ (preR f l).getD (2 * k + 1) 0 = 1 := by
  intro l
  induction l with
  | nil => intro f k h; simp at h
  | cons c l ih =>
    intro f k h
    cases k with
    | zero => exact ⟨rfl, rfl⟩
    | succ k =>
      have := ih (c + 1) k (by simpa using h)
      rw [show 2 * (k + 1) = 2 * k + 1 + 1 by omega]
      simp only [preR, List.getD_cons_succ]
      refine ⟨?_, this.2⟩
      rw [this.1]
      cases k <;> rfl
theorem endR_at : ∀ (l : List Int) (f : Int), endR f l = frF f l l.length := by
  intro l
  induction l with
  | nil => intro f; rfl
  | cons c l ih =>
    intro f
    simp only [endR, ih, List.length_cons]
    cases l with
    | nil => rfl
    | cons d l => simp [frF]
/-- Cell j of the array when k cuts are in it. -/
def cellAt (xs : List Int) (k j : Nat) : Int := if j < 2 * k then (preR 0 xs).getD j 0 else 0
def cellEnd (m : Int) (xs : List Int) (j : Nat) : Int := if j = 2 * xs.length then m - freeAt xs xs.length else cellAt xs xs.length j
theorem cellAt_zero (xs : List Int) (j : Nat) : cellAt xs 0 j = 0 := by simp [cellAt]
theorem cellAt_succ (xs : List Int) (k j : Nat) (h : k < xs.length) :
    cellAt xs (k + 1) j = if j = 2 * k + 1 then 1 else if j = 2 * k then xs.getD k 0 - freeAt xs k else cellAt xs k j := by
  have h1 := preR_at xs 0 k h
  rw [frF_free] at h1
  unfold cellAt
  by_cases e1 : j = 2 * k + 1
  · subst e1; rw [if_pos (by omega), if_pos rfl, h1.2]
  · rw [if_neg e1]
    by_cases e2 : j = 2 * k
    · subst e2; rw [if_pos (by omega), if_pos rfl, h1.1]
    · rw [if_neg e2]
      by_cases e3 : j < 2 * k
      · rw [if_pos e3, if_pos (by omega)]
      · rw [if_neg e3, if_neg (by omega)]
theorem rawP_at (m : Int) (xs : List Int) (j : Nat) : (rawP m xs).getD j 0 = cellEnd m xs j := by
  have hl := preR_len xs 0
  unfold rawP cellEnd cellAt
  rw [rawF_pre, endR_at, frF_free, List.append_assoc]
  simp only [List.getD_eq_getElem?_getD]
  by_cases e : j = 2 * xs.length
  · rw [if_pos e, List.getElem?_append_right (by omega), e, hl]
    simp
  · rw [if_neg e]
    by_cases h : j < 2 * xs.length
    · rw [if_pos h, List.getElem?_append_left (by omega)]
    · rw [if_neg h, List.getElem?_append_right (by omega), List.getElem?_append_right (by simp; omega), List.getElem?_replicate]
      split <;> rfl
end Go.Proofs.Ytkadmopnfmbedaa
