/-
  Closed facts on the row of the law on NeedlessClues: the function is found by its name and the row's cells fit the program. Conditions: none.
-/
import Derived.Test.YtphjiicdodkfbaaClosed
namespace Go.Proofs.Ytphjiicdodkfbaa.fnExactNeedlessClues
theorem named : Try.pinned.checked.prog.funcNamed Rows.fnExactNeedlessCluesRow.func = some 12 := by kernel_rfl
theorem closed : joinedFacts Try.pinned.checked.prog 12 Try.f12 Rows.fnExactNeedlessCluesSpec Rows.fnExactNeedlessCluesRow = true := by
  unfold joinedFacts
  rw [enterT, finalT, makeT]
  kernel_rfl
theorem inst : Try.f12.isInstance Try.pinned.checked.prog Rows.fnExactNeedlessCluesRow.origin Rows.fnExactNeedlessCluesRow.targs := of_decide_eq_true (by kernel_rfl)
theorem wrap : Try.f12.isWrapper Try.pinned.checked.prog Rows.fnExactNeedlessCluesRow.wrapper Rows.fnExactNeedlessCluesRow.mainSum := by unfold Func.isWrapper; first | (rw [if_pos (by decide +kernel)]; kernel_rfl) | (rw [if_neg (by decide +kernel)]; exact ⟨rfl, rfl⟩)
end Go.Proofs.Ytphjiicdodkfbaa.fnExactNeedlessClues
