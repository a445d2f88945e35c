/-
  Closed facts on the row of the law on DropClue: the function is found by its name and the row's cells fit the program. Conditions: none.
-/
import Derived.Test.YtphjiicdodkfbaaClosed
namespace Go.Proofs.Ytphjiicdodkfbaa.fnExactDropClue
theorem named : Try.pinned.checked.prog.funcNamed Rows.fnExactDropClueRow.func = some 13 := by kernel_rfl
theorem closed : joinedFacts Try.pinned.checked.prog 13 Try.f13 Rows.fnExactDropClueSpec Rows.fnExactDropClueRow = true := by
  unfold joinedFacts
  rw [enterT, finalT, makeT]
  kernel_rfl
theorem inst : Try.f13.isInstance Try.pinned.checked.prog Rows.fnExactDropClueRow.origin Rows.fnExactDropClueRow.targs := of_decide_eq_true (by kernel_rfl)
theorem wrap : Try.f13.isWrapper Try.pinned.checked.prog Rows.fnExactDropClueRow.wrapper Rows.fnExactDropClueRow.mainSum := by unfold Func.isWrapper; first | (rw [if_pos (by decide +kernel)]; kernel_rfl) | (rw [if_neg (by decide +kernel)]; exact ⟨rfl, rfl⟩)
end Go.Proofs.Ytphjiicdodkfbaa.fnExactDropClue
