/-
  Closed facts on the row of the law on GapsBoth: the function is found by its name and the row's cells fit the program. Conditions: none.
-/
import Derived.Test.YtcgifmoddojnmaaClosed
namespace Go.Proofs.Ytcgifmoddojnmaa.fnExactGapsBoth
theorem named : Try.pinned.checked.prog.funcNamed Rows.fnExactGapsBothRow.func = some 10 := by kernel_rfl
theorem closed : joinedFacts Try.pinned.checked.prog 10 Try.f10 Rows.fnExactGapsBothSpec Rows.fnExactGapsBothRow = true := by
  unfold joinedFacts
  rw [enterT, finalT, makeT]
  kernel_rfl
theorem inst : Try.f10.isInstance Try.pinned.checked.prog Rows.fnExactGapsBothRow.origin Rows.fnExactGapsBothRow.targs := of_decide_eq_true (by kernel_rfl)
theorem wrap : Try.f10.isWrapper Try.pinned.checked.prog Rows.fnExactGapsBothRow.wrapper Rows.fnExactGapsBothRow.mainSum := by unfold Func.isWrapper; first | (rw [if_pos (by decide +kernel)]; kernel_rfl) | (rw [if_neg (by decide +kernel)]; exact ⟨rfl, rfl⟩)
end Go.Proofs.Ytcgifmoddojnmaa.fnExactGapsBoth
