/-
  Closed facts on the row of the law on AnswersOf: the function is found by its name and the row's cells fit the program. Conditions: none.
-/
import Derived.Test.YtpolobjlihhjbaaClosed
namespace Go.Proofs.Ytpolobjlihhjbaa.fnExactAnswersOf
theorem named : Try.pinned.checked.prog.funcNamed Rows.fnExactAnswersOfRow.func = some 5 := by kernel_rfl
theorem closed : joinedFacts Try.pinned.checked.prog 5 Try.f5 Rows.fnExactAnswersOfSpec Rows.fnExactAnswersOfRow = true := by
  unfold joinedFacts
  rw [enterT, finalT, makeT]
  kernel_rfl
theorem inst : Try.f5.isInstance Try.pinned.checked.prog Rows.fnExactAnswersOfRow.origin Rows.fnExactAnswersOfRow.targs := of_decide_eq_true (by kernel_rfl)
theorem wrap : Try.f5.isWrapper Try.pinned.checked.prog Rows.fnExactAnswersOfRow.wrapper Rows.fnExactAnswersOfRow.mainSum := by unfold Func.isWrapper; first | (rw [if_pos (by decide +kernel)]; kernel_rfl) | (rw [if_neg (by decide +kernel)]; exact ⟨rfl, rfl⟩)
end Go.Proofs.Ytpolobjlihhjbaa.fnExactAnswersOf
