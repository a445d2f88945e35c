/-
  Closed facts on the row of the law on GapsOf: the function is found by its name and the row's cells fit the program. Conditions: none.
-/
import Derived.Test.YtpijogajjinedaaClosed
namespace Go.Proofs.Ytpijogajjinedaa.fnExactGapsOf
theorem named : Try.pinned.checked.prog.funcNamed Rows.fnExactGapsOfRow.func = some 12 := by kernel_rfl
theorem closed : joinedFacts Try.pinned.checked.prog 12 Try.f12 Rows.fnExactGapsOfSpec Rows.fnExactGapsOfRow = true := by
  unfold joinedFacts
  rw [enterT, finalT, makeT]
  kernel_rfl
theorem inst : Try.f12.isInstance Try.pinned.checked.prog Rows.fnExactGapsOfRow.origin Rows.fnExactGapsOfRow.targs := of_decide_eq_true (by kernel_rfl)
theorem wrap : Try.f12.isWrapper Try.pinned.checked.prog Rows.fnExactGapsOfRow.wrapper Rows.fnExactGapsOfRow.mainSum := by unfold Func.isWrapper; first | (rw [if_pos (by decide +kernel)]; kernel_rfl) | (rw [if_neg (by decide +kernel)]; exact ⟨rfl, rfl⟩)
end Go.Proofs.Ytpijogajjinedaa.fnExactGapsOf
