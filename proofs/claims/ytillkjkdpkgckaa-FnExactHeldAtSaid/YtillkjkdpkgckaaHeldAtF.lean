/-
  Closed facts on the row of the law on HeldAt: the function is found by its name and the row's cells fit the program. Conditions: none.
-/
import Derived.Test.YtillkjkdpkgckaaClosed
namespace Go.Proofs.Ytillkjkdpkgckaa.fnExactHeldAt
theorem named : Try.pinned.checked.prog.funcNamed Rows.fnExactHeldAtRow.func = some 9 := by kernel_rfl
theorem closed : joinedFacts Try.pinned.checked.prog 9 Try.f9 Rows.fnExactHeldAtSpec Rows.fnExactHeldAtRow = true := by
  unfold joinedFacts
  rw [enterT, finalT, makeT]
  kernel_rfl
theorem inst : Try.f9.isInstance Try.pinned.checked.prog Rows.fnExactHeldAtRow.origin Rows.fnExactHeldAtRow.targs := of_decide_eq_true (by kernel_rfl)
theorem wrap : Try.f9.isWrapper Try.pinned.checked.prog Rows.fnExactHeldAtRow.wrapper Rows.fnExactHeldAtRow.mainSum := by unfold Func.isWrapper; first | (rw [if_pos (by decide +kernel)]; kernel_rfl) | (rw [if_neg (by decide +kernel)]; exact ⟨rfl, rfl⟩)
end Go.Proofs.Ytillkjkdpkgckaa.fnExactHeldAt
