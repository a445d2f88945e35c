/-
  Closed facts on the row of the law on LeftByClues: the function is found by its name and the row's cells fit the program. Conditions: none.
-/
import Derived.Test.YtphjiicdodkfbaaClosed
namespace Go.Proofs.Ytphjiicdodkfbaa.fnExactLeftByClues
theorem named : Try.pinned.checked.prog.funcNamed Rows.fnExactLeftByCluesRow.func = some 15 := by kernel_rfl
theorem closed : joinedFacts Try.pinned.checked.prog 15 Try.f15 Rows.fnExactLeftByCluesSpec Rows.fnExactLeftByCluesRow = true := by
  unfold joinedFacts
  rw [enterT, finalT, makeT]
  kernel_rfl
theorem inst : Try.f15.isInstance Try.pinned.checked.prog Rows.fnExactLeftByCluesRow.origin Rows.fnExactLeftByCluesRow.targs := of_decide_eq_true (by kernel_rfl)
theorem wrap : Try.f15.isWrapper Try.pinned.checked.prog Rows.fnExactLeftByCluesRow.wrapper Rows.fnExactLeftByCluesRow.mainSum := by unfold Func.isWrapper; first | (rw [if_pos (by decide +kernel)]; kernel_rfl) | (rw [if_neg (by decide +kernel)]; exact ⟨rfl, rfl⟩)
end Go.Proofs.Ytphjiicdodkfbaa.fnExactLeftByClues
