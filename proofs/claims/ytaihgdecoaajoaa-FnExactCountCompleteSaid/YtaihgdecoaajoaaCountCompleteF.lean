/-
  Closed facts on the row of the law on CountComplete: the function is found by its name and the row's cells fit the program. Conditions: none.
-/
import Derived.Test.YtaihgdecoaajoaaClosed
namespace Go.Proofs.Ytaihgdecoaajoaa.fnExactCountComplete
theorem named : Try.pinned.checked.prog.funcNamed Rows.fnExactCountCompleteRow.func = some 16 := by kernel_rfl
theorem closed : joinedFacts Try.pinned.checked.prog 16 Try.f16 Rows.fnExactCountCompleteSpec Rows.fnExactCountCompleteRow = true := by
  unfold joinedFacts
  rw [enterT, finalT, makeT]
  kernel_rfl
theorem inst : Try.f16.isInstance Try.pinned.checked.prog Rows.fnExactCountCompleteRow.origin Rows.fnExactCountCompleteRow.targs := of_decide_eq_true (by kernel_rfl)
theorem wrap : Try.f16.isWrapper Try.pinned.checked.prog Rows.fnExactCountCompleteRow.wrapper Rows.fnExactCountCompleteRow.mainSum := by unfold Func.isWrapper; first | (rw [if_pos (by decide +kernel)]; kernel_rfl) | (rw [if_neg (by decide +kernel)]; exact ⟨rfl, rfl⟩)
end Go.Proofs.Ytaihgdecoaajoaa.fnExactCountComplete
