/-
  Closed facts on the row of the law on CountUnpaid: the function is found by its name and the row's cells fit the program. Conditions: none.
-/
import Derived.Test.YtdgadabfahmdmaaClosed
namespace Go.Proofs.Ytdgadabfahmdmaa.fnExactCountUnpaid
theorem named : Try.pinned.checked.prog.funcNamed Rows.fnExactCountUnpaidRow.func = some 15 := by kernel_rfl
theorem closed : joinedFacts Try.pinned.checked.prog 15 Try.f15 Rows.fnExactCountUnpaidSpec Rows.fnExactCountUnpaidRow = true := by
  unfold joinedFacts
  rw [enterT, finalT, makeT]
  kernel_rfl
theorem inst : Try.f15.isInstance Try.pinned.checked.prog Rows.fnExactCountUnpaidRow.origin Rows.fnExactCountUnpaidRow.targs := of_decide_eq_true (by kernel_rfl)
theorem wrap : Try.f15.isWrapper Try.pinned.checked.prog Rows.fnExactCountUnpaidRow.wrapper Rows.fnExactCountUnpaidRow.mainSum := by unfold Func.isWrapper; first | (rw [if_pos (by decide +kernel)]; kernel_rfl) | (rw [if_neg (by decide +kernel)]; exact ⟨rfl, rfl⟩)
end Go.Proofs.Ytdgadabfahmdmaa.fnExactCountUnpaid
