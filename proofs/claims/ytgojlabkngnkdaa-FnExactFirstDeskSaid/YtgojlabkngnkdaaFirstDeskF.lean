/-
  Closed facts on the row of the law on FirstDesk: the function is found by its name and the row's cells fit the program. Conditions: none.
-/
import Derived.Test.YtgojlabkngnkdaaClosed
namespace Go.Proofs.Ytgojlabkngnkdaa.fnExactFirstDesk
theorem named : Try.pinned.checked.prog.funcNamed Rows.fnExactFirstDeskRow.func = some 3 := by kernel_rfl
theorem closed : joinedFacts Try.pinned.checked.prog 3 Try.f3 Rows.fnExactFirstDeskSpec Rows.fnExactFirstDeskRow = true := by
  unfold joinedFacts
  rw [enterT, finalT, makeT]
  kernel_rfl
theorem inst : Try.f3.isInstance Try.pinned.checked.prog Rows.fnExactFirstDeskRow.origin Rows.fnExactFirstDeskRow.targs := of_decide_eq_true (by kernel_rfl)
theorem wrap : Try.f3.isWrapper Try.pinned.checked.prog Rows.fnExactFirstDeskRow.wrapper Rows.fnExactFirstDeskRow.mainSum := by unfold Func.isWrapper; first | (rw [if_pos (by decide +kernel)]; kernel_rfl) | (rw [if_neg (by decide +kernel)]; exact ⟨rfl, rfl⟩)
end Go.Proofs.Ytgojlabkngnkdaa.fnExactFirstDesk
