/-
  Closed facts on the row of the law on OtherSigns: the function is found by its name and the row's cells fit the program. Conditions: none.
-/
import Derived.Test.YtcgifmoddojnmaaClosed
namespace Go.Proofs.Ytcgifmoddojnmaa.fnExactOtherSigns
theorem named : Try.pinned.checked.prog.funcNamed Rows.fnExactOtherSignsRow.func = some 8 := by kernel_rfl
theorem closed : joinedFacts Try.pinned.checked.prog 8 Try.f8 Rows.fnExactOtherSignsSpec Rows.fnExactOtherSignsRow = true := by
  unfold joinedFacts
  rw [enterT, finalT, makeT]
  kernel_rfl
theorem inst : Try.f8.isInstance Try.pinned.checked.prog Rows.fnExactOtherSignsRow.origin Rows.fnExactOtherSignsRow.targs := of_decide_eq_true (by kernel_rfl)
theorem wrap : Try.f8.isWrapper Try.pinned.checked.prog Rows.fnExactOtherSignsRow.wrapper Rows.fnExactOtherSignsRow.mainSum := by unfold Func.isWrapper; first | (rw [if_pos (by decide +kernel)]; kernel_rfl) | (rw [if_neg (by decide +kernel)]; exact ⟨rfl, rfl⟩)
end Go.Proofs.Ytcgifmoddojnmaa.fnExactOtherSigns
