/-
  Closed facts on the row of the law on IsGreedy: the function is found by its name and the row's cells fit the program. Conditions: none.
-/
import Derived.Test.YtdgadabfahmdmaaClosed
namespace Go.Proofs.Ytdgadabfahmdmaa.fnExactIsGreedy
theorem named : Try.pinned.checked.prog.funcNamed Rows.fnExactIsGreedyRow.func = some 10 := by kernel_rfl
theorem closed : joinedFacts Try.pinned.checked.prog 10 Try.f10 Rows.fnExactIsGreedySpec Rows.fnExactIsGreedyRow = true := by
  unfold joinedFacts
  rw [enterT, finalT, makeT]
  kernel_rfl
theorem inst : Try.f10.isInstance Try.pinned.checked.prog Rows.fnExactIsGreedyRow.origin Rows.fnExactIsGreedyRow.targs := of_decide_eq_true (by kernel_rfl)
theorem wrap : Try.f10.isWrapper Try.pinned.checked.prog Rows.fnExactIsGreedyRow.wrapper Rows.fnExactIsGreedyRow.mainSum := by unfold Func.isWrapper; first | (rw [if_pos (by decide +kernel)]; kernel_rfl) | (rw [if_neg (by decide +kernel)]; exact ⟨rfl, rfl⟩)
end Go.Proofs.Ytdgadabfahmdmaa.fnExactIsGreedy
