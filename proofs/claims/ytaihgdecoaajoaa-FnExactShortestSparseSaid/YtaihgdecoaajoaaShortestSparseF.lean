/-
  Closed facts on the row of the law on ShortestSparse: the function is found by its name and the row's cells fit the program. Conditions: none.
-/
import Derived.Test.YtaihgdecoaajoaaClosed
namespace Go.Proofs.Ytaihgdecoaajoaa.fnExactShortestSparse
theorem named : Try.pinned.checked.prog.funcNamed Rows.fnExactShortestSparseRow.func = some 17 := by kernel_rfl
theorem closed : joinedFacts Try.pinned.checked.prog 17 Try.f17 Rows.fnExactShortestSparseSpec Rows.fnExactShortestSparseRow = true := by
  unfold joinedFacts
  rw [enterT, finalT, makeT]
  kernel_rfl
theorem inst : Try.f17.isInstance Try.pinned.checked.prog Rows.fnExactShortestSparseRow.origin Rows.fnExactShortestSparseRow.targs := of_decide_eq_true (by kernel_rfl)
theorem wrap : Try.f17.isWrapper Try.pinned.checked.prog Rows.fnExactShortestSparseRow.wrapper Rows.fnExactShortestSparseRow.mainSum := by unfold Func.isWrapper; first | (rw [if_pos (by decide +kernel)]; kernel_rfl) | (rw [if_neg (by decide +kernel)]; exact ⟨rfl, rfl⟩)
end Go.Proofs.Ytaihgdecoaajoaa.fnExactShortestSparse
