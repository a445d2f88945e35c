/-
  Closed facts on the row of the law on MovesOfPlan: the function is found by its name and the row's cells fit the program. Conditions: none.
-/
import Derived.Test.YtillkjkdpkgckaaClosed
namespace Go.Proofs.Ytillkjkdpkgckaa.fnExactMovesOfPlan
theorem named : Try.pinned.checked.prog.funcNamed Rows.fnExactMovesOfPlanRow.func = some 10 := by kernel_rfl
theorem closed : joinedFacts Try.pinned.checked.prog 10 Try.f10 Rows.fnExactMovesOfPlanSpec Rows.fnExactMovesOfPlanRow = true := by
  unfold joinedFacts
  rw [enterT, finalT, makeT]
  kernel_rfl
theorem inst : Try.f10.isInstance Try.pinned.checked.prog Rows.fnExactMovesOfPlanRow.origin Rows.fnExactMovesOfPlanRow.targs := of_decide_eq_true (by kernel_rfl)
theorem wrap : Try.f10.isWrapper Try.pinned.checked.prog Rows.fnExactMovesOfPlanRow.wrapper Rows.fnExactMovesOfPlanRow.mainSum := by unfold Func.isWrapper; first | (rw [if_pos (by decide +kernel)]; kernel_rfl) | (rw [if_neg (by decide +kernel)]; exact ⟨rfl, rfl⟩)
end Go.Proofs.Ytillkjkdpkgckaa.fnExactMovesOfPlan
