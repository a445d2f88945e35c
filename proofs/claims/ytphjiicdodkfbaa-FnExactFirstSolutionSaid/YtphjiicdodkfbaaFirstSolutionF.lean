/-
  Closed facts on the row of the law on FirstSolution: the function is found by its name and the row's cells fit the program. Conditions: none.
-/
import Derived.Test.YtphjiicdodkfbaaClosed
namespace Go.Proofs.Ytphjiicdodkfbaa.fnExactFirstSolution
theorem named : Try.pinned.checked.prog.funcNamed Rows.fnExactFirstSolutionRow.func = some 9 := by kernel_rfl
theorem closed : joinedFacts Try.pinned.checked.prog 9 Try.f9 Rows.fnExactFirstSolutionSpec Rows.fnExactFirstSolutionRow = true := by
  unfold joinedFacts
  rw [enterT, finalT, makeT]
  kernel_rfl
theorem inst : Try.f9.isInstance Try.pinned.checked.prog Rows.fnExactFirstSolutionRow.origin Rows.fnExactFirstSolutionRow.targs := of_decide_eq_true (by kernel_rfl)
theorem wrap : Try.f9.isWrapper Try.pinned.checked.prog Rows.fnExactFirstSolutionRow.wrapper Rows.fnExactFirstSolutionRow.mainSum := by unfold Func.isWrapper; first | (rw [if_pos (by decide +kernel)]; kernel_rfl) | (rw [if_neg (by decide +kernel)]; exact ⟨rfl, rfl⟩)
end Go.Proofs.Ytphjiicdodkfbaa.fnExactFirstSolution
