/-
  Closed facts on the row of the law on CheckedCards: the function is found by its name and the row's cells fit the program. Conditions: none.
-/
import Derived.Test.YtgojlabkngnkdaaClosed
namespace Go.Proofs.Ytgojlabkngnkdaa.fnExactCheckedCards
theorem named : Try.pinned.checked.prog.funcNamed Rows.fnExactCheckedCardsRow.func = some 5 := by kernel_rfl
theorem closed : joinedFacts Try.pinned.checked.prog 5 Try.f5 Rows.fnExactCheckedCardsSpec Rows.fnExactCheckedCardsRow = true := by
  unfold joinedFacts
  rw [enterT, finalT, makeT]
  kernel_rfl
theorem inst : Try.f5.isInstance Try.pinned.checked.prog Rows.fnExactCheckedCardsRow.origin Rows.fnExactCheckedCardsRow.targs := of_decide_eq_true (by kernel_rfl)
theorem wrap : Try.f5.isWrapper Try.pinned.checked.prog Rows.fnExactCheckedCardsRow.wrapper Rows.fnExactCheckedCardsRow.mainSum := by unfold Func.isWrapper; first | (rw [if_pos (by decide +kernel)]; kernel_rfl) | (rw [if_neg (by decide +kernel)]; exact ⟨rfl, rfl⟩)
end Go.Proofs.Ytgojlabkngnkdaa.fnExactCheckedCards
