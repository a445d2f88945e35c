/-
  Closed facts on the row of the law on MirrorCuts: the function is found by its name and the row's cells fit the program. Conditions: none.
-/
import Derived.Test.YtillkjkdpkgckaaClosed
namespace Go.Proofs.Ytillkjkdpkgckaa.fnExactMirrorCuts
theorem named : Try.pinned.checked.prog.funcNamed Rows.fnExactMirrorCutsRow.func = some 6 := by kernel_rfl
theorem closed : joinedFacts Try.pinned.checked.prog 6 Try.f6 Rows.fnExactMirrorCutsSpec Rows.fnExactMirrorCutsRow = true := by
  unfold joinedFacts
  rw [enterT, finalT, makeT]
  kernel_rfl
theorem inst : Try.f6.isInstance Try.pinned.checked.prog Rows.fnExactMirrorCutsRow.origin Rows.fnExactMirrorCutsRow.targs := of_decide_eq_true (by kernel_rfl)
theorem wrap : Try.f6.isWrapper Try.pinned.checked.prog Rows.fnExactMirrorCutsRow.wrapper Rows.fnExactMirrorCutsRow.mainSum := by unfold Func.isWrapper; first | (rw [if_pos (by decide +kernel)]; kernel_rfl) | (rw [if_neg (by decide +kernel)]; exact ⟨rfl, rfl⟩)
end Go.Proofs.Ytillkjkdpkgckaa.fnExactMirrorCuts
