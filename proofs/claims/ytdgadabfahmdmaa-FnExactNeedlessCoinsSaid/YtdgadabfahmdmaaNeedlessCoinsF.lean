/-
  Closed facts on the row of the law on NeedlessCoins: the function is found by its name and the row's cells fit the program. Conditions: none.
-/
import Derived.Test.YtdgadabfahmdmaaClosed
namespace Go.Proofs.Ytdgadabfahmdmaa.fnExactNeedlessCoins
theorem named : Try.pinned.checked.prog.funcNamed Rows.fnExactNeedlessCoinsRow.func = some 16 := by kernel_rfl
theorem closed : joinedFacts Try.pinned.checked.prog 16 Try.f16 Rows.fnExactNeedlessCoinsSpec Rows.fnExactNeedlessCoinsRow = true := by
  unfold joinedFacts
  rw [enterT, finalT, makeT]
  kernel_rfl
theorem inst : Try.f16.isInstance Try.pinned.checked.prog Rows.fnExactNeedlessCoinsRow.origin Rows.fnExactNeedlessCoinsRow.targs := of_decide_eq_true (by kernel_rfl)
theorem wrap : Try.f16.isWrapper Try.pinned.checked.prog Rows.fnExactNeedlessCoinsRow.wrapper Rows.fnExactNeedlessCoinsRow.mainSum := by unfold Func.isWrapper; first | (rw [if_pos (by decide +kernel)]; kernel_rfl) | (rw [if_neg (by decide +kernel)]; exact ⟨rfl, rfl⟩)
end Go.Proofs.Ytdgadabfahmdmaa.fnExactNeedlessCoins
