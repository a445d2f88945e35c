/-
  Closed facts on the row of the law on AddCard: the function is found by its name and the row's cells fit the program. Conditions: none.
-/
import Derived.Test.YtcgifmoddojnmabClosed
namespace Go.Proofs.Ytcgifmoddojnmab.fnExactAddCard
theorem named : Try.pinned.checked.prog.funcNamed Rows.fnExactAddCardRow.func = some 5 := by kernel_rfl
theorem closed : joinedFacts Try.pinned.checked.prog 5 Try.f5 Rows.fnExactAddCardSpec Rows.fnExactAddCardRow = true := by
  unfold joinedFacts
  rw [enterT, finalT, makeT]
  kernel_rfl
theorem inst : Try.f5.isInstance Try.pinned.checked.prog Rows.fnExactAddCardRow.origin Rows.fnExactAddCardRow.targs := of_decide_eq_true (by kernel_rfl)
theorem wrap : Try.f5.isWrapper Try.pinned.checked.prog Rows.fnExactAddCardRow.wrapper Rows.fnExactAddCardRow.mainSum := by unfold Func.isWrapper; first | (rw [if_pos (by decide +kernel)]; kernel_rfl) | (rw [if_neg (by decide +kernel)]; exact ⟨rfl, rfl⟩)
end Go.Proofs.Ytcgifmoddojnmab.fnExactAddCard
