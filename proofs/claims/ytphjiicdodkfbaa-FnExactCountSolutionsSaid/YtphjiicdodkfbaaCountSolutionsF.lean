/-
  Closed facts on the row of the law on CountSolutions: the function is found by its name and the row's cells fit the program. Conditions: none.
-/
import Derived.Test.YtphjiicdodkfbaaClosed
namespace Go.Proofs.Ytphjiicdodkfbaa.fnExactCountSolutions
theorem named : Try.pinned.checked.prog.funcNamed Rows.fnExactCountSolutionsRow.func = some 8 := by kernel_rfl
theorem closed : joinedFacts Try.pinned.checked.prog 8 Try.f8 Rows.fnExactCountSolutionsSpec Rows.fnExactCountSolutionsRow = true := by
  unfold joinedFacts
  rw [enterT, finalT, makeT]
  kernel_rfl
theorem inst : Try.f8.isInstance Try.pinned.checked.prog Rows.fnExactCountSolutionsRow.origin Rows.fnExactCountSolutionsRow.targs := of_decide_eq_true (by kernel_rfl)
theorem wrap : Try.f8.isWrapper Try.pinned.checked.prog Rows.fnExactCountSolutionsRow.wrapper Rows.fnExactCountSolutionsRow.mainSum := by unfold Func.isWrapper; first | (rw [if_pos (by decide +kernel)]; kernel_rfl) | (rw [if_neg (by decide +kernel)]; exact ⟨rfl, rfl⟩)
end Go.Proofs.Ytphjiicdodkfbaa.fnExactCountSolutions
