/-
  Closed facts on the row of the law on FewestCardsFor: the function is found by its name and the row's cells fit the program. Conditions: none.
-/
import Derived.Test.YtpolobjlihhjbaaClosed
namespace Go.Proofs.Ytpolobjlihhjbaa.fnExactFewestCardsFor
theorem named : Try.pinned.checked.prog.funcNamed Rows.fnExactFewestCardsForRow.func = some 17 := by kernel_rfl
theorem closed : joinedFacts Try.pinned.checked.prog 17 Try.f17 Rows.fnExactFewestCardsForSpec Rows.fnExactFewestCardsForRow = true := by
  unfold joinedFacts
  rw [enterT, finalT, makeT]
  kernel_rfl
theorem inst : Try.f17.isInstance Try.pinned.checked.prog Rows.fnExactFewestCardsForRow.origin Rows.fnExactFewestCardsForRow.targs := of_decide_eq_true (by kernel_rfl)
theorem wrap : Try.f17.isWrapper Try.pinned.checked.prog Rows.fnExactFewestCardsForRow.wrapper Rows.fnExactFewestCardsForRow.mainSum := by unfold Func.isWrapper; first | (rw [if_pos (by decide +kernel)]; kernel_rfl) | (rw [if_neg (by decide +kernel)]; exact ⟨rfl, rfl⟩)
end Go.Proofs.Ytpolobjlihhjbaa.fnExactFewestCardsFor
