/-
  Closed facts on the row of the law on GreedyChange: the function is found by its name and the row's cells fit the program. Conditions: none.
-/
import Derived.Test.YtdgadabfahmdmaaClosed
namespace Go.Proofs.Ytdgadabfahmdmaa.fnExactGreedyChange
theorem named : Try.pinned.checked.prog.funcNamed Rows.fnExactGreedyChangeRow.func = some 4 := by kernel_rfl
theorem closed : joinedFacts Try.pinned.checked.prog 4 Try.f4 Rows.fnExactGreedyChangeSpec Rows.fnExactGreedyChangeRow = true := by
  unfold joinedFacts
  rw [enterT, finalT, makeT]
  kernel_rfl
theorem inst : Try.f4.isInstance Try.pinned.checked.prog Rows.fnExactGreedyChangeRow.origin Rows.fnExactGreedyChangeRow.targs := of_decide_eq_true (by kernel_rfl)
theorem wrap : Try.f4.isWrapper Try.pinned.checked.prog Rows.fnExactGreedyChangeRow.wrapper Rows.fnExactGreedyChangeRow.mainSum := by unfold Func.isWrapper; first | (rw [if_pos (by decide +kernel)]; kernel_rfl) | (rw [if_neg (by decide +kernel)]; exact ⟨rfl, rfl⟩)
end Go.Proofs.Ytdgadabfahmdmaa.fnExactGreedyChange
