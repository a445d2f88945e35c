/-
  Closed facts on the row of the law on WaysToMeasure: the function is found by its name and the row's cells fit the program. Conditions: none.
-/
import Derived.Test.YtaihgdecoaajoaaClosed
namespace Go.Proofs.Ytaihgdecoaajoaa.fnExactWaysToMeasure
theorem named : Try.pinned.checked.prog.funcNamed Rows.fnExactWaysToMeasureRow.func = some 5 := by kernel_rfl
theorem closed : joinedFacts Try.pinned.checked.prog 5 Try.f5 Rows.fnExactWaysToMeasureSpec Rows.fnExactWaysToMeasureRow = true := by
  unfold joinedFacts
  rw [enterT, finalT, makeT]
  kernel_rfl
theorem inst : Try.f5.isInstance Try.pinned.checked.prog Rows.fnExactWaysToMeasureRow.origin Rows.fnExactWaysToMeasureRow.targs := of_decide_eq_true (by kernel_rfl)
theorem wrap : Try.f5.isWrapper Try.pinned.checked.prog Rows.fnExactWaysToMeasureRow.wrapper Rows.fnExactWaysToMeasureRow.mainSum := by unfold Func.isWrapper; first | (rw [if_pos (by decide +kernel)]; kernel_rfl) | (rw [if_neg (by decide +kernel)]; exact ⟨rfl, rfl⟩)
end Go.Proofs.Ytaihgdecoaajoaa.fnExactWaysToMeasure
