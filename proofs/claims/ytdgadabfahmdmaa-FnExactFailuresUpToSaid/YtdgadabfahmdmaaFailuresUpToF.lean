/-
  Closed facts on the row of the law on FailuresUpTo: the function is found by its name and the row's cells fit the program. Conditions: none.
-/
import Derived.Test.YtdgadabfahmdmaaClosed
namespace Go.Proofs.Ytdgadabfahmdmaa.fnExactFailuresUpTo
theorem named : Try.pinned.checked.prog.funcNamed Rows.fnExactFailuresUpToRow.func = some 11 := by kernel_rfl
theorem closed : joinedFacts Try.pinned.checked.prog 11 Try.f11 Rows.fnExactFailuresUpToSpec Rows.fnExactFailuresUpToRow = true := by
  unfold joinedFacts
  rw [enterT, finalT, makeT]
  kernel_rfl
theorem inst : Try.f11.isInstance Try.pinned.checked.prog Rows.fnExactFailuresUpToRow.origin Rows.fnExactFailuresUpToRow.targs := of_decide_eq_true (by kernel_rfl)
theorem wrap : Try.f11.isWrapper Try.pinned.checked.prog Rows.fnExactFailuresUpToRow.wrapper Rows.fnExactFailuresUpToRow.mainSum := by unfold Func.isWrapper; first | (rw [if_pos (by decide +kernel)]; kernel_rfl) | (rw [if_neg (by decide +kernel)]; exact ⟨rfl, rfl⟩)
end Go.Proofs.Ytdgadabfahmdmaa.fnExactFailuresUpTo
