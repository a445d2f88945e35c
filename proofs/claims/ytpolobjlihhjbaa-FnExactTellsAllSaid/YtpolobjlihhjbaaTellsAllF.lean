/-
  Closed facts on the row of the law on TellsAll: the function is found by its name and the row's cells fit the program. Conditions: none.
-/
import Derived.Test.YtpolobjlihhjbaaClosed
namespace Go.Proofs.Ytpolobjlihhjbaa.fnExactTellsAll
theorem named : Try.pinned.checked.prog.funcNamed Rows.fnExactTellsAllRow.func = some 7 := by kernel_rfl
theorem closed : joinedFacts Try.pinned.checked.prog 7 Try.f7 Rows.fnExactTellsAllSpec Rows.fnExactTellsAllRow = true := by
  unfold joinedFacts
  rw [enterT, finalT, makeT]
  kernel_rfl
theorem inst : Try.f7.isInstance Try.pinned.checked.prog Rows.fnExactTellsAllRow.origin Rows.fnExactTellsAllRow.targs := of_decide_eq_true (by kernel_rfl)
theorem wrap : Try.f7.isWrapper Try.pinned.checked.prog Rows.fnExactTellsAllRow.wrapper Rows.fnExactTellsAllRow.mainSum := by unfold Func.isWrapper; first | (rw [if_pos (by decide +kernel)]; kernel_rfl) | (rw [if_neg (by decide +kernel)]; exact ⟨rfl, rfl⟩)
end Go.Proofs.Ytpolobjlihhjbaa.fnExactTellsAll
