/-
  Closed facts on the row of the law on IsSolved: the function is found by its name and the row's cells fit the program. Conditions: none.
-/
import Derived.Test.YtphjiicdodkfbaaClosed
namespace Go.Proofs.Ytphjiicdodkfbaa.fnExactIsSolved
theorem named : Try.pinned.checked.prog.funcNamed Rows.fnExactIsSolvedRow.func = some 11 := by kernel_rfl
theorem closed : joinedFacts Try.pinned.checked.prog 11 Try.f11 Rows.fnExactIsSolvedSpec Rows.fnExactIsSolvedRow = true := by
  unfold joinedFacts
  rw [enterT, finalT, makeT]
  kernel_rfl
theorem inst : Try.f11.isInstance Try.pinned.checked.prog Rows.fnExactIsSolvedRow.origin Rows.fnExactIsSolvedRow.targs := of_decide_eq_true (by kernel_rfl)
theorem wrap : Try.f11.isWrapper Try.pinned.checked.prog Rows.fnExactIsSolvedRow.wrapper Rows.fnExactIsSolvedRow.mainSum := by unfold Func.isWrapper; first | (rw [if_pos (by decide +kernel)]; kernel_rfl) | (rw [if_neg (by decide +kernel)]; exact ⟨rfl, rfl⟩)
end Go.Proofs.Ytphjiicdodkfbaa.fnExactIsSolved
