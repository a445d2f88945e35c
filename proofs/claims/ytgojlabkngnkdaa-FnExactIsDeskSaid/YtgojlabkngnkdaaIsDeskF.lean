/-
  Closed facts on the row of the law on IsDesk: the function is found by its name and the row's cells fit the program. Conditions: none.
-/
import Derived.Test.YtgojlabkngnkdaaClosed
namespace Go.Proofs.Ytgojlabkngnkdaa.fnExactIsDesk
theorem named : Try.pinned.checked.prog.funcNamed Rows.fnExactIsDeskRow.func = some 4 := by kernel_rfl
theorem closed : joinedFacts Try.pinned.checked.prog 4 Try.f4 Rows.fnExactIsDeskSpec Rows.fnExactIsDeskRow = true := by
  unfold joinedFacts
  rw [enterT, finalT, makeT]
  kernel_rfl
theorem inst : Try.f4.isInstance Try.pinned.checked.prog Rows.fnExactIsDeskRow.origin Rows.fnExactIsDeskRow.targs := of_decide_eq_true (by kernel_rfl)
theorem wrap : Try.f4.isWrapper Try.pinned.checked.prog Rows.fnExactIsDeskRow.wrapper Rows.fnExactIsDeskRow.mainSum := by unfold Func.isWrapper; first | (rw [if_pos (by decide +kernel)]; kernel_rfl) | (rw [if_neg (by decide +kernel)]; exact ⟨rfl, rfl⟩)
end Go.Proofs.Ytgojlabkngnkdaa.fnExactIsDesk
