/-
  Closed facts on the row of the law on PartsOfCuts: the function is found by its name and the row's cells fit the program. Conditions: none.
-/
import Derived.Test.YtillkjkdpkgckaaClosed
namespace Go.Proofs.Ytillkjkdpkgckaa.fnExactPartsOfCuts
theorem named : Try.pinned.checked.prog.funcNamed Rows.fnExactPartsOfCutsRow.func = some 4 := by kernel_rfl
theorem closed : joinedFacts Try.pinned.checked.prog 4 Try.f4 Rows.fnExactPartsOfCutsSpec Rows.fnExactPartsOfCutsRow = true := by
  unfold joinedFacts
  rw [enterT, finalT, makeT]
  kernel_rfl
theorem inst : Try.f4.isInstance Try.pinned.checked.prog Rows.fnExactPartsOfCutsRow.origin Rows.fnExactPartsOfCutsRow.targs := of_decide_eq_true (by kernel_rfl)
theorem wrap : Try.f4.isWrapper Try.pinned.checked.prog Rows.fnExactPartsOfCutsRow.wrapper Rows.fnExactPartsOfCutsRow.mainSum := by unfold Func.isWrapper; first | (rw [if_pos (by decide +kernel)]; kernel_rfl) | (rw [if_neg (by decide +kernel)]; exact ⟨rfl, rfl⟩)
end Go.Proofs.Ytillkjkdpkgckaa.fnExactPartsOfCuts
