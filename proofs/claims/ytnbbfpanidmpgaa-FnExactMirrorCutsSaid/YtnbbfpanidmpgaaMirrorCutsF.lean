/-
  Closed facts on the row of the law on MirrorCuts: the function is found by its name and the row's cells fit the program. Conditions: none.
-/
import Derived.Test.YtnbbfpanidmpgaaClosed
namespace Go.Proofs.Ytnbbfpanidmpgaa.fnExactMirrorCuts
theorem named : Try.pinned.checked.prog.funcNamed Rows.fnExactMirrorCutsRow.func = some 13 := by kernel_rfl
theorem closed : joinedFacts Try.pinned.checked.prog 13 Try.f13 Rows.fnExactMirrorCutsSpec Rows.fnExactMirrorCutsRow = true := by
  unfold joinedFacts
  rw [enterT, finalT, makeT]
  kernel_rfl
theorem inst : Try.f13.isInstance Try.pinned.checked.prog Rows.fnExactMirrorCutsRow.origin Rows.fnExactMirrorCutsRow.targs := of_decide_eq_true (by kernel_rfl)
theorem wrap : Try.f13.isWrapper Try.pinned.checked.prog Rows.fnExactMirrorCutsRow.wrapper Rows.fnExactMirrorCutsRow.mainSum := by unfold Func.isWrapper; first | (rw [if_pos (by decide +kernel)]; kernel_rfl) | (rw [if_neg (by decide +kernel)]; exact ⟨rfl, rfl⟩)
end Go.Proofs.Ytnbbfpanidmpgaa.fnExactMirrorCuts
