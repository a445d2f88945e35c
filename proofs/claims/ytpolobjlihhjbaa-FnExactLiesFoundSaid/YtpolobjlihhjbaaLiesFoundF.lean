/-
  Closed facts on the row of the law on LiesFound: the function is found by its name and the row's cells fit the program. Conditions: none.
-/
import Derived.Test.YtpolobjlihhjbaaClosed
namespace Go.Proofs.Ytpolobjlihhjbaa.fnExactLiesFound
theorem named : Try.pinned.checked.prog.funcNamed Rows.fnExactLiesFoundRow.func = some 9 := by kernel_rfl
theorem closed : joinedFacts Try.pinned.checked.prog 9 Try.f9 Rows.fnExactLiesFoundSpec Rows.fnExactLiesFoundRow = true := by
  unfold joinedFacts
  rw [enterT, finalT, makeT]
  kernel_rfl
theorem inst : Try.f9.isInstance Try.pinned.checked.prog Rows.fnExactLiesFoundRow.origin Rows.fnExactLiesFoundRow.targs := of_decide_eq_true (by kernel_rfl)
theorem wrap : Try.f9.isWrapper Try.pinned.checked.prog Rows.fnExactLiesFoundRow.wrapper Rows.fnExactLiesFoundRow.mainSum := by unfold Func.isWrapper; first | (rw [if_pos (by decide +kernel)]; kernel_rfl) | (rw [if_neg (by decide +kernel)]; exact ⟨rfl, rfl⟩)
end Go.Proofs.Ytpolobjlihhjbaa.fnExactLiesFound
