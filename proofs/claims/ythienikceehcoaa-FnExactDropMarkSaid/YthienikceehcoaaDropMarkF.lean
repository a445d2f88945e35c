/-
  Closed facts on the row of the law on DropMark: the function is found by its name and the row's cells fit the program. Conditions: none.
-/
import Derived.Test.YthienikceehcoaaClosed
namespace Go.Proofs.Ythienikceehcoaa.fnExactDropMark
theorem named : Try.pinned.checked.prog.funcNamed Rows.fnExactDropMarkRow.func = some 5 := by kernel_rfl
theorem closed : joinedFacts Try.pinned.checked.prog 5 Try.f5 Rows.fnExactDropMarkSpec Rows.fnExactDropMarkRow = true := by
  unfold joinedFacts
  rw [enterT, finalT, makeT]
  kernel_rfl
theorem inst : Try.f5.isInstance Try.pinned.checked.prog Rows.fnExactDropMarkRow.origin Rows.fnExactDropMarkRow.targs := of_decide_eq_true (by kernel_rfl)
theorem wrap : Try.f5.isWrapper Try.pinned.checked.prog Rows.fnExactDropMarkRow.wrapper Rows.fnExactDropMarkRow.mainSum := by unfold Func.isWrapper; first | (rw [if_pos (by decide +kernel)]; kernel_rfl) | (rw [if_neg (by decide +kernel)]; exact ⟨rfl, rfl⟩)
end Go.Proofs.Ythienikceehcoaa.fnExactDropMark
