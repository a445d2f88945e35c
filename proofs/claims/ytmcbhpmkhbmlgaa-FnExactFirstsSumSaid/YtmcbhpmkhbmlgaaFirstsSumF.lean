/-
  Closed facts on the row of the law on FirstsSum: the function is found by its name and the row's cells fit the program. Conditions: none.
-/
import Derived.Test.YtmcbhpmkhbmlgaaClosed
namespace Go.Proofs.Ytmcbhpmkhbmlgaa.fnExactFirstsSum
theorem named : Try.pinned.checked.prog.funcNamed Rows.fnExactFirstsSumRow.func = some 8 := by kernel_rfl
theorem closed : joinedFacts Try.pinned.checked.prog 8 Try.f8 Rows.fnExactFirstsSumSpec Rows.fnExactFirstsSumRow = true := by
  unfold joinedFacts
  rw [enterT, finalT, makeT]
  kernel_rfl
theorem inst : Try.f8.isInstance Try.pinned.checked.prog Rows.fnExactFirstsSumRow.origin Rows.fnExactFirstsSumRow.targs := of_decide_eq_true (by kernel_rfl)
theorem wrap : Try.f8.isWrapper Try.pinned.checked.prog Rows.fnExactFirstsSumRow.wrapper Rows.fnExactFirstsSumRow.mainSum := by unfold Func.isWrapper; first | (rw [if_pos (by decide +kernel)]; kernel_rfl) | (rw [if_neg (by decide +kernel)]; exact ⟨rfl, rfl⟩)
end Go.Proofs.Ytmcbhpmkhbmlgaa.fnExactFirstsSum
