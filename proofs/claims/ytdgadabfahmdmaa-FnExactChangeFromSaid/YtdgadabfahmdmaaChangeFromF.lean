/-
  Closed facts on the row of the law on ChangeFrom: the function is found by its name and the row's cells fit the program. Conditions: none.
-/
import Derived.Test.YtdgadabfahmdmaaClosed
namespace Go.Proofs.Ytdgadabfahmdmaa.fnExactChangeFrom
theorem named : Try.pinned.checked.prog.funcNamed Rows.fnExactChangeFromRow.func = some 13 := by kernel_rfl
theorem closed : joinedFacts Try.pinned.checked.prog 13 Try.f13 Rows.fnExactChangeFromSpec Rows.fnExactChangeFromRow = true := by
  unfold joinedFacts
  rw [enterT, finalT, makeT]
  kernel_rfl
theorem inst : Try.f13.isInstance Try.pinned.checked.prog Rows.fnExactChangeFromRow.origin Rows.fnExactChangeFromRow.targs := of_decide_eq_true (by kernel_rfl)
theorem wrap : Try.f13.isWrapper Try.pinned.checked.prog Rows.fnExactChangeFromRow.wrapper Rows.fnExactChangeFromRow.mainSum := by unfold Func.isWrapper; first | (rw [if_pos (by decide +kernel)]; kernel_rfl) | (rw [if_neg (by decide +kernel)]; exact ⟨rfl, rfl⟩)
end Go.Proofs.Ytdgadabfahmdmaa.fnExactChangeFrom
