/-
  Plain lists of integers: cuts without one of them, and the indices that a test picks. No condition; no program is spoken of here.
-/
import Derived.Test.YtkadmopnfmbedaaCfew
namespace Go.Proofs.Ytkadmopnfmbedaa

def rmAt (xs : List Int) (k : Nat) : List Int := xs.take k ++ xs.drop (k + 1)
theorem rm_len {xs : List Int} {k : Nat} (h : k < xs.length) : (rmAt xs k).length + 1 = xs.length := by
  simp only [rmAt, List.length_append, List.length_take, List.length_drop]; omega
theorem rm_at {xs : List Int} {i : Nat} (hi : i < xs.length) (j : Nat) : (rmAt xs i).getD j 0 = if j < i then xs.getD j 0 else xs.getD (j + 1) 0 := by
  simp only [rmAt, List.getD_eq_getElem?_getD]
  by_cases h : j < i
  · rw [if_pos h, List.getElem?_append_left (by simp; omega), List.getElem?_take, if_pos h]
  · rw [if_neg h, List.getElem?_append_right (by simp; omega), List.getElem?_drop]
    congr 2
    simp; omega
theorem CutsOk.rm {m : Int} {xs : List Int} (h : CutsOk m xs) {i : Nat} (hi : i < xs.length) : CutsOk m (rmAt xs i) := by
  have hl := rm_len hi
  refine ⟨h.1, by have := h.2.1; omega, fun j hj => ?_, fun j hj => ?_⟩
  · rw [rm_at hi]
    split
    · exact h.2.2.1 j (by omega)
    · exact h.2.2.1 (j + 1) (by omega)
  · rw [rm_at hi, rm_at hi]
    by_cases h1 : j + 1 < i
    · rw [if_pos (by omega), if_pos h1]; exact h.2.2.2 j (by omega)
    · by_cases h2 : j < i
      · rw [if_pos h2, if_neg h1]
        have a := h.2.2.2 j (by omega)
        have b := h.2.2.2 (j + 1) (by omega)
        omega
      · rw [if_neg h2, if_neg h1]; exact h.2.2.2 (j + 1) (by omega)
/-- The indices below k that a test picks. -/
def selT (P : Nat → Bool) : Nat → List Int
  | 0 => []
  | k + 1 => selT P k ++ (if P k = true then [(k : Int)] else [])
theorem selT_yes {P : Nat → Bool} {k : Nat} (h : P k = true) : selT P (k + 1) = selT P k ++ [(k : Int)] := by rw [selT, if_pos h]
theorem selT_no {P : Nat → Bool} {k : Nat} (h : P k = false) : selT P (k + 1) = selT P k := by rw [selT, if_neg (by simp [h]), List.append_nil]
theorem selT_len (P : Nat → Bool) : ∀ k, (selT P k).length ≤ k := by
  intro k
  induction k with
  | zero => simp [selT]
  | succ k ih => rw [selT]; split <;> simp <;> omega
noncomputable def ndB (xs : List Int) (m : Int) : Bool := cutsB m xs && payB m xs
noncomputable def ndR (xs : List Int) (m : Int) : List Int := if ndB xs m = true then selT (fun k => payB m (rmAt xs k)) xs.length else []
theorem ndR_yes {xs : List Int} {m : Int} (h : ndB xs m = true) : ndR xs m = selT (fun k => payB m (rmAt xs k)) xs.length := by simp [ndR, h]
theorem ndR_no {xs : List Int} {m : Int} (h : ndB xs m = false) : ndR xs m = [] := by simp [ndR, h]
theorem ndB_cut {xs : List Int} {m : Int} (h : cutsB m xs = false) : ndB xs m = false := by simp [ndB, h]
theorem ndB_pay {xs : List Int} {m : Int} (h : payB m xs = false) : ndB xs m = false := by simp [ndB, h]
theorem ndB_yes {xs : List Int} {m : Int} (h : cutsB m xs = true) (g : payB m xs = true) : ndB xs m = true := by simp [ndB, h, g]
theorem ndR_len (xs : List Int) (m : Int) : (ndR xs m).length ≤ 1099511627776 := by
  unfold ndR
  by_cases h : ndB xs m = true
  · rw [if_pos h]
    simp only [ndB, Bool.and_eq_true] at h
    have := (cutsB_iff.1 h.1).2.1
    have := selT_len (fun k => payB m (rmAt xs k)) xs.length
    omega
  · rw [if_neg h]; simp
end Go.Proofs.Ytkadmopnfmbedaa
