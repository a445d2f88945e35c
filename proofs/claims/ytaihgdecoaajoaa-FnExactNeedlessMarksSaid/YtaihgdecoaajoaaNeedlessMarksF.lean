/-
  Closed facts on the row of the law on NeedlessMarks: the function is found by its name and the row's cells fit the program. Conditions: none.
-/
import Derived.Test.YtaihgdecoaajoaaClosed
namespace Go.Proofs.Ytaihgdecoaajoaa.fnExactNeedlessMarks
theorem named : Try.pinned.checked.prog.funcNamed Rows.fnExactNeedlessMarksRow.func = some 12 := by kernel_rfl
theorem closed : joinedFacts Try.pinned.checked.prog 12 Try.f12 Rows.fnExactNeedlessMarksSpec Rows.fnExactNeedlessMarksRow = true := by
  unfold joinedFacts
  rw [enterT, finalT, makeT]
  kernel_rfl
theorem inst : Try.f12.isInstance Try.pinned.checked.prog Rows.fnExactNeedlessMarksRow.origin Rows.fnExactNeedlessMarksRow.targs := of_decide_eq_true (by kernel_rfl)
theorem wrap : Try.f12.isWrapper Try.pinned.checked.prog Rows.fnExactNeedlessMarksRow.wrapper Rows.fnExactNeedlessMarksRow.mainSum := by unfold Func.isWrapper; first | (rw [if_pos (by decide +kernel)]; kernel_rfl) | (rw [if_neg (by decide +kernel)]; exact ⟨rfl, rfl⟩)
end Go.Proofs.Ytaihgdecoaajoaa.fnExactNeedlessMarks
