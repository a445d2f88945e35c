/-
  Closed facts on the row of the law on HarderPuzzle: the function is found by its name and the row's cells fit the program. Conditions: none.
-/
import Derived.Test.YtphjiicdodkfbaaClosed
namespace Go.Proofs.Ytphjiicdodkfbaa.fnExactHarderPuzzle
theorem named : Try.pinned.checked.prog.funcNamed Rows.fnExactHarderPuzzleRow.func = some 17 := by kernel_rfl
theorem closed : joinedFacts Try.pinned.checked.prog 17 Try.f17 Rows.fnExactHarderPuzzleSpec Rows.fnExactHarderPuzzleRow = true := by
  unfold joinedFacts
  rw [enterT, finalT, makeT]
  kernel_rfl
theorem inst : Try.f17.isInstance Try.pinned.checked.prog Rows.fnExactHarderPuzzleRow.origin Rows.fnExactHarderPuzzleRow.targs := of_decide_eq_true (by kernel_rfl)
theorem wrap : Try.f17.isWrapper Try.pinned.checked.prog Rows.fnExactHarderPuzzleRow.wrapper Rows.fnExactHarderPuzzleRow.mainSum := by unfold Func.isWrapper; first | (rw [if_pos (by decide +kernel)]; kernel_rfl) | (rw [if_neg (by decide +kernel)]; exact ⟨rfl, rfl⟩)
end Go.Proofs.Ytphjiicdodkfbaa.fnExactHarderPuzzle
