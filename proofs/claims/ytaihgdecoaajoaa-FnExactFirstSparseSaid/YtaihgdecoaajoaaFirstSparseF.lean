/-
  Closed facts on the row of the law on FirstSparse: the function is found by its name and the row's cells fit the program. Conditions: none.
-/
import Derived.Test.YtaihgdecoaajoaaClosed
namespace Go.Proofs.Ytaihgdecoaajoaa.fnExactFirstSparse
theorem named : Try.pinned.checked.prog.funcNamed Rows.fnExactFirstSparseRow.func = some 18 := by kernel_rfl
theorem closed : joinedFacts Try.pinned.checked.prog 18 Try.f18 Rows.fnExactFirstSparseSpec Rows.fnExactFirstSparseRow = true := by
  unfold joinedFacts
  rw [enterT, finalT, makeT]
  kernel_rfl
theorem inst : Try.f18.isInstance Try.pinned.checked.prog Rows.fnExactFirstSparseRow.origin Rows.fnExactFirstSparseRow.targs := of_decide_eq_true (by kernel_rfl)
theorem wrap : Try.f18.isWrapper Try.pinned.checked.prog Rows.fnExactFirstSparseRow.wrapper Rows.fnExactFirstSparseRow.mainSum := by unfold Func.isWrapper; first | (rw [if_pos (by decide +kernel)]; kernel_rfl) | (rw [if_neg (by decide +kernel)]; exact ⟨rfl, rfl⟩)
end Go.Proofs.Ytaihgdecoaajoaa.fnExactFirstSparse
