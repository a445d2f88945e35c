/-
  Closed facts on the row of the law on IsHidden: the function is found by its name and the row's cells fit the program. Conditions: none.
-/
import Derived.Test.YtphjiicdodkfbaaClosed
namespace Go.Proofs.Ytphjiicdodkfbaa.fnExactIsHidden
theorem named : Try.pinned.checked.prog.funcNamed Rows.fnExactIsHiddenRow.func = some 3 := by kernel_rfl
theorem closed : joinedFacts Try.pinned.checked.prog 3 Try.f3 Rows.fnExactIsHiddenSpec Rows.fnExactIsHiddenRow = true := by
  unfold joinedFacts
  rw [enterT, finalT, makeT]
  kernel_rfl
theorem inst : Try.f3.isInstance Try.pinned.checked.prog Rows.fnExactIsHiddenRow.origin Rows.fnExactIsHiddenRow.targs := of_decide_eq_true (by kernel_rfl)
theorem wrap : Try.f3.isWrapper Try.pinned.checked.prog Rows.fnExactIsHiddenRow.wrapper Rows.fnExactIsHiddenRow.mainSum := by unfold Func.isWrapper; first | (rw [if_pos (by decide +kernel)]; kernel_rfl) | (rw [if_neg (by decide +kernel)]; exact ⟨rfl, rfl⟩)
end Go.Proofs.Ytphjiicdodkfbaa.fnExactIsHidden
