/-
  Closed facts on the row of the law on AddClue: the function is found by its name and the row's cells fit the program. Conditions: none.
-/
import Derived.Test.YtgojlabkngnkdaaClosed
namespace Go.Proofs.Ytgojlabkngnkdaa.fnExactAddClue
theorem named : Try.pinned.checked.prog.funcNamed Rows.fnExactAddClueRow.func = some 6 := by kernel_rfl
theorem closed : joinedFacts Try.pinned.checked.prog 6 Try.f6 Rows.fnExactAddClueSpec Rows.fnExactAddClueRow = true := by
  unfold joinedFacts
  rw [enterT, finalT, makeT]
  kernel_rfl
theorem inst : Try.f6.isInstance Try.pinned.checked.prog Rows.fnExactAddClueRow.origin Rows.fnExactAddClueRow.targs := of_decide_eq_true (by kernel_rfl)
theorem wrap : Try.f6.isWrapper Try.pinned.checked.prog Rows.fnExactAddClueRow.wrapper Rows.fnExactAddClueRow.mainSum := by unfold Func.isWrapper; first | (rw [if_pos (by decide +kernel)]; kernel_rfl) | (rw [if_neg (by decide +kernel)]; exact ⟨rfl, rfl⟩)
end Go.Proofs.Ytgojlabkngnkdaa.fnExactAddClue
