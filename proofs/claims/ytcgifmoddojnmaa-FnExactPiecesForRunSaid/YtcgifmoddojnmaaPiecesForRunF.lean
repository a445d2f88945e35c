/-
  Closed facts on the row of the law on PiecesForRun: the function is found by its name and the row's cells fit the program. Conditions: none.
-/
import Derived.Test.YtcgifmoddojnmaaClosed
namespace Go.Proofs.Ytcgifmoddojnmaa.fnExactPiecesForRun
theorem named : Try.pinned.checked.prog.funcNamed Rows.fnExactPiecesForRunRow.func = some 13 := by kernel_rfl
theorem closed : joinedFacts Try.pinned.checked.prog 13 Try.f13 Rows.fnExactPiecesForRunSpec Rows.fnExactPiecesForRunRow = true := by
  unfold joinedFacts
  rw [enterT, finalT, makeT]
  kernel_rfl
theorem inst : Try.f13.isInstance Try.pinned.checked.prog Rows.fnExactPiecesForRunRow.origin Rows.fnExactPiecesForRunRow.targs := of_decide_eq_true (by kernel_rfl)
theorem wrap : Try.f13.isWrapper Try.pinned.checked.prog Rows.fnExactPiecesForRunRow.wrapper Rows.fnExactPiecesForRunRow.mainSum := by unfold Func.isWrapper; first | (rw [if_pos (by decide +kernel)]; kernel_rfl) | (rw [if_neg (by decide +kernel)]; exact ⟨rfl, rfl⟩)
end Go.Proofs.Ytcgifmoddojnmaa.fnExactPiecesForRun
