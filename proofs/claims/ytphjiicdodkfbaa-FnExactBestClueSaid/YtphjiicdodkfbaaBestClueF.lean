/-
  Closed facts on the row of the law on BestClue: the function is found by its name and the row's cells fit the program. Conditions: none.
-/
import Derived.Test.YtphjiicdodkfbaaClosed
namespace Go.Proofs.Ytphjiicdodkfbaa.fnExactBestClue
theorem named : Try.pinned.checked.prog.funcNamed Rows.fnExactBestClueRow.func = some 16 := by kernel_rfl
theorem closed : joinedFacts Try.pinned.checked.prog 16 Try.f16 Rows.fnExactBestClueSpec Rows.fnExactBestClueRow = true := by
  unfold joinedFacts
  rw [enterT, finalT, makeT]
  kernel_rfl
theorem inst : Try.f16.isInstance Try.pinned.checked.prog Rows.fnExactBestClueRow.origin Rows.fnExactBestClueRow.targs := of_decide_eq_true (by kernel_rfl)
theorem wrap : Try.f16.isWrapper Try.pinned.checked.prog Rows.fnExactBestClueRow.wrapper Rows.fnExactBestClueRow.mainSum := by unfold Func.isWrapper; first | (rw [if_pos (by decide +kernel)]; kernel_rfl) | (rw [if_neg (by decide +kernel)]; exact ⟨rfl, rfl⟩)
end Go.Proofs.Ytphjiicdodkfbaa.fnExactBestClue
