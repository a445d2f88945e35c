/-
  Closed facts on the row of the law on MissingLengths: the function is found by its name and the row's cells fit the program. Conditions: none.
-/
import Derived.Test.YtaihgdecoaajoaaClosed
namespace Go.Proofs.Ytaihgdecoaajoaa.fnExactMissingLengths
theorem named : Try.pinned.checked.prog.funcNamed Rows.fnExactMissingLengthsRow.func = some 6 := by kernel_rfl
theorem closed : joinedFacts Try.pinned.checked.prog 6 Try.f6 Rows.fnExactMissingLengthsSpec Rows.fnExactMissingLengthsRow = true := by
  unfold joinedFacts
  rw [enterT, finalT, makeT]
  kernel_rfl
theorem inst : Try.f6.isInstance Try.pinned.checked.prog Rows.fnExactMissingLengthsRow.origin Rows.fnExactMissingLengthsRow.targs := of_decide_eq_true (by kernel_rfl)
theorem wrap : Try.f6.isWrapper Try.pinned.checked.prog Rows.fnExactMissingLengthsRow.wrapper Rows.fnExactMissingLengthsRow.mainSum := by unfold Func.isWrapper; first | (rw [if_pos (by decide +kernel)]; kernel_rfl) | (rw [if_neg (by decide +kernel)]; exact ⟨rfl, rfl⟩)
end Go.Proofs.Ytaihgdecoaajoaa.fnExactMissingLengths
