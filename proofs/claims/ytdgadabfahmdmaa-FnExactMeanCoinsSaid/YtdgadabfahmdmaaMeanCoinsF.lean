/-
  Closed facts on the row of the law on MeanCoins: the function is found by its name and the row's cells fit the program. Conditions: none.
-/
import Derived.Test.YtdgadabfahmdmaaClosed
namespace Go.Proofs.Ytdgadabfahmdmaa.fnExactMeanCoins
theorem named : Try.pinned.checked.prog.funcNamed Rows.fnExactMeanCoinsRow.func = some 17 := by kernel_rfl
theorem closed : joinedFacts Try.pinned.checked.prog 17 Try.f17 Rows.fnExactMeanCoinsSpec Rows.fnExactMeanCoinsRow = true := by
  unfold joinedFacts
  rw [enterT, finalT, makeT]
  kernel_rfl
theorem inst : Try.f17.isInstance Try.pinned.checked.prog Rows.fnExactMeanCoinsRow.origin Rows.fnExactMeanCoinsRow.targs := of_decide_eq_true (by kernel_rfl)
theorem wrap : Try.f17.isWrapper Try.pinned.checked.prog Rows.fnExactMeanCoinsRow.wrapper Rows.fnExactMeanCoinsRow.mainSum := by unfold Func.isWrapper; first | (rw [if_pos (by decide +kernel)]; kernel_rfl) | (rw [if_neg (by decide +kernel)]; exact ⟨rfl, rfl⟩)
end Go.Proofs.Ytdgadabfahmdmaa.fnExactMeanCoins
