/-
  Closed facts on the row of the law on RingPieces: the function is found by its name and the row's cells fit the program. Conditions: none.
-/
import Derived.Test.YtkadmopnfmbedaaClosed
namespace Go.Proofs.Ytkadmopnfmbedaa.fnExactRingPieces
theorem named : Try.pinned.checked.prog.funcNamed Rows.fnExactRingPiecesRow.func = some 7 := by kernel_rfl
theorem closed : joinedFacts Try.pinned.checked.prog 7 Try.f7 Rows.fnExactRingPiecesSpec Rows.fnExactRingPiecesRow = true := by
  unfold joinedFacts
  rw [enterT, finalT, makeT]
  kernel_rfl
theorem inst : Try.f7.isInstance Try.pinned.checked.prog Rows.fnExactRingPiecesRow.origin Rows.fnExactRingPiecesRow.targs := of_decide_eq_true (by kernel_rfl)
theorem wrap : Try.f7.isWrapper Try.pinned.checked.prog Rows.fnExactRingPiecesRow.wrapper Rows.fnExactRingPiecesRow.mainSum := by unfold Func.isWrapper; first | (rw [if_pos (by decide +kernel)]; kernel_rfl) | (rw [if_neg (by decide +kernel)]; exact ⟨rfl, rfl⟩)
end Go.Proofs.Ytkadmopnfmbedaa.fnExactRingPieces
