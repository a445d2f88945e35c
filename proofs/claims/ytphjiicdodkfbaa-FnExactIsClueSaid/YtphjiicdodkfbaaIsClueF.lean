/-
  Closed facts on the row of the law on IsClue: the function is found by its name and the row's cells fit the program. Conditions: none.
-/
import Derived.Test.YtphjiicdodkfbaaClosed
namespace Go.Proofs.Ytphjiicdodkfbaa.fnExactIsClue
theorem named : Try.pinned.checked.prog.funcNamed Rows.fnExactIsClueRow.func = some 4 := by kernel_rfl
theorem closed : joinedFacts Try.pinned.checked.prog 4 Try.f4 Rows.fnExactIsClueSpec Rows.fnExactIsClueRow = true := by
  unfold joinedFacts
  rw [enterT, finalT, makeT]
  kernel_rfl
theorem inst : Try.f4.isInstance Try.pinned.checked.prog Rows.fnExactIsClueRow.origin Rows.fnExactIsClueRow.targs := of_decide_eq_true (by kernel_rfl)
theorem wrap : Try.f4.isWrapper Try.pinned.checked.prog Rows.fnExactIsClueRow.wrapper Rows.fnExactIsClueRow.mainSum := by unfold Func.isWrapper; first | (rw [if_pos (by decide +kernel)]; kernel_rfl) | (rw [if_neg (by decide +kernel)]; exact ⟨rfl, rfl⟩)
end Go.Proofs.Ytphjiicdodkfbaa.fnExactIsClue
