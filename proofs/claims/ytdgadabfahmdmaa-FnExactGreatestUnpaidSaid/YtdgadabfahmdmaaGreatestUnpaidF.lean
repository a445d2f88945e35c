/-
  Closed facts on the row of the law on GreatestUnpaid: the function is found by its name and the row's cells fit the program. Conditions: none.
-/
import Derived.Test.YtdgadabfahmdmaaClosed
namespace Go.Proofs.Ytdgadabfahmdmaa.fnExactGreatestUnpaid
theorem named : Try.pinned.checked.prog.funcNamed Rows.fnExactGreatestUnpaidRow.func = some 14 := by kernel_rfl
theorem closed : joinedFacts Try.pinned.checked.prog 14 Try.f14 Rows.fnExactGreatestUnpaidSpec Rows.fnExactGreatestUnpaidRow = true := by
  unfold joinedFacts
  rw [enterT, finalT, makeT]
  kernel_rfl
theorem inst : Try.f14.isInstance Try.pinned.checked.prog Rows.fnExactGreatestUnpaidRow.origin Rows.fnExactGreatestUnpaidRow.targs := of_decide_eq_true (by kernel_rfl)
theorem wrap : Try.f14.isWrapper Try.pinned.checked.prog Rows.fnExactGreatestUnpaidRow.wrapper Rows.fnExactGreatestUnpaidRow.mainSum := by unfold Func.isWrapper; first | (rw [if_pos (by decide +kernel)]; kernel_rfl) | (rw [if_neg (by decide +kernel)]; exact ⟨rfl, rfl⟩)
end Go.Proofs.Ytdgadabfahmdmaa.fnExactGreatestUnpaid
