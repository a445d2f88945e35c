/-
  Closed facts on the row of the law on MakePuzzle: the function is found by its name and the row's cells fit the program. Conditions: none.
-/
import Derived.Test.YtphjiicdodkfbaaClosed
namespace Go.Proofs.Ytphjiicdodkfbaa.fnExactMakePuzzle
theorem named : Try.pinned.checked.prog.funcNamed Rows.fnExactMakePuzzleRow.func = some 18 := by kernel_rfl
theorem closed : joinedFacts Try.pinned.checked.prog 18 Try.f18 Rows.fnExactMakePuzzleSpec Rows.fnExactMakePuzzleRow = true := by
  unfold joinedFacts
  rw [enterT, finalT, makeT]
  kernel_rfl
theorem inst : Try.f18.isInstance Try.pinned.checked.prog Rows.fnExactMakePuzzleRow.origin Rows.fnExactMakePuzzleRow.targs := of_decide_eq_true (by kernel_rfl)
theorem wrap : Try.f18.isWrapper Try.pinned.checked.prog Rows.fnExactMakePuzzleRow.wrapper Rows.fnExactMakePuzzleRow.mainSum := by unfold Func.isWrapper; first | (rw [if_pos (by decide +kernel)]; kernel_rfl) | (rw [if_neg (by decide +kernel)]; exact ⟨rfl, rfl⟩)
end Go.Proofs.Ytphjiicdodkfbaa.fnExactMakePuzzle
