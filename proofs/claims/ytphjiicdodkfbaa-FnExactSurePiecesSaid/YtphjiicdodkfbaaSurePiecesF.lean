/-
  Closed facts on the row of the law on SurePieces: the function is found by its name and the row's cells fit the program. Conditions: none.
-/
import Derived.Test.YtphjiicdodkfbaaClosed
namespace Go.Proofs.Ytphjiicdodkfbaa.fnExactSurePieces
theorem named : Try.pinned.checked.prog.funcNamed Rows.fnExactSurePiecesRow.func = some 10 := by kernel_rfl
theorem closed : joinedFacts Try.pinned.checked.prog 10 Try.f10 Rows.fnExactSurePiecesSpec Rows.fnExactSurePiecesRow = true := by
  unfold joinedFacts
  rw [enterT, finalT, makeT]
  kernel_rfl
theorem inst : Try.f10.isInstance Try.pinned.checked.prog Rows.fnExactSurePiecesRow.origin Rows.fnExactSurePiecesRow.targs := of_decide_eq_true (by kernel_rfl)
theorem wrap : Try.f10.isWrapper Try.pinned.checked.prog Rows.fnExactSurePiecesRow.wrapper Rows.fnExactSurePiecesRow.mainSum := by unfold Func.isWrapper; first | (rw [if_pos (by decide +kernel)]; kernel_rfl) | (rw [if_neg (by decide +kernel)]; exact ⟨rfl, rfl⟩)
end Go.Proofs.Ytphjiicdodkfbaa.fnExactSurePieces
