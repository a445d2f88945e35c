/-
  Whether two lists are the same, and NeedlessMarks in the model, by their contracts. Condition: slices of at most 2^40 numbers.
-/
import Derived.Test.YtgojlabkngnkdaaDRdr
namespace Go.Proofs.Ytgojlabkngnkdaa
open Go.RowKit

theorem ris_pw {lo hi : Int} : ∀ (xs : List Int), RisTo xs lo hi xs.length → xs.Pairwise (fun x y => x < y) := by
  intro xs h
  rw [List.pairwise_iff_getElem]
  intro i j hi hj hij
  have key : ∀ (d i : Nat), i + d + 1 < xs.length → xs.getD i 0 < xs.getD (i + d + 1) 0 := by
    intro d
    induction d with
    | zero => intro i hi; exact h.2 i hi
    | succ d ih => intro i hi; have h1 := ih i (by omega); have h2 := h.2 (i + d + 1) (by omega); have e : i + (d + 1) + 1 = i + d + 1 + 1 := by omega
                   rw [e]; omega
  have := key (j - i - 1) i (by omega)
  rw [show i + (j - i - 1) + 1 = j by omega] at this
  simpa [List.getD_eq_getElem?_getD, List.getElem?_eq_getElem, hi, hj] using this
theorem pw_ris {lo hi : Int} {xs : List Int} (h : xs.Pairwise (fun x y => x < y)) (hm : ∀ x ∈ xs, lo ≤ x ∧ x ≤ hi) : RisTo xs lo hi xs.length := by
  refine ⟨fun j hj => ?_, fun j hj => ?_⟩
  · have : xs.getD j 0 ∈ xs := by rw [List.getD_eq_getElem?_getD, List.getElem?_eq_getElem hj]; exact List.getElem_mem hj
    exact hm _ this
  · have := List.pairwise_iff_getElem.1 h j (j + 1) (by omega) hj (by omega)
    simpa [List.getD_eq_getElem?_getD, List.getElem?_eq_getElem, hj, show j < xs.length by omega] using this
theorem Rul.drop {ms : List Int} (h : Rul ms) {i : Nat} (h0 : 0 < i) (hi : i + 1 < ms.length) : Rul (drL ms (ms.getD i 0)) := by
  have hp := ris_pw ms h.ris
  have hm : ∀ x ∈ drL ms (ms.getD i 0), 0 ≤ x ∧ x ≤ 60 := by
    intro x hx
    obtain ⟨j, hj, rfl⟩ := List.getElem_of_mem (List.mem_filter.1 hx).1
    have := h.ris.1 j hj
    simpa [List.getD_eq_getElem?_getD, List.getElem?_eq_getElem hj] using this
  have hne0 : ¬ ms.getD 0 0 = ms.getD i 0 := by
    have := h.diff (i := 0) (j := i) h0 (by omega); omega
  have hnel : ¬ ms.getD (ms.length - 1) 0 = ms.getD i 0 := by
    have := h.diff (i := i) (j := ms.length - 1) (by omega) (by omega); omega
  have hz := h.zero
  have h2 := h.two
  obtain ⟨a, l, rfl⟩ : ∃ a l, ms = a :: l := by
    cases ms with
    | nil => simp at h2
    | cons a l => exact ⟨a, l, rfl⟩
  have ha : a = 0 := by simpa using hz
  have e : drL (a :: l) ((a :: l).getD i 0) = a :: drL l ((a :: l).getD i 0) := by
    unfold drL
    rw [List.filter_cons]
    have : (!(a == (a :: l).getD i 0)) = true := by
      simp only [List.getD_cons_zero] at hne0
      simpa using hne0
    rw [if_pos this]
  have hmem : (a :: l).getD ((a :: l).length - 1) 0 ∈ drL l ((a :: l).getD i 0) := by
    unfold drL
    rw [List.mem_filter]
    refine ⟨?_, by simpa using hnel⟩
    simp only [List.length_cons] at h2 ⊢
    obtain ⟨q, hq⟩ : ∃ q, l.length = q + 1 := ⟨l.length - 1, by omega⟩
    rw [hq, Nat.add_sub_cancel, List.getD_cons_succ, List.getD_eq_getElem?_getD, List.getElem?_eq_getElem (by omega)]
    exact List.getElem_mem _
  rw [e] at hm ⊢
  refine ⟨?_, pw_ris ?_ hm, by simpa using ha⟩
  · have := List.length_pos_of_mem hmem
    rw [List.length_cons]; omega
  · rw [← e]; exact hp.filter _

end Go.Proofs.Ytgojlabkngnkdaa
