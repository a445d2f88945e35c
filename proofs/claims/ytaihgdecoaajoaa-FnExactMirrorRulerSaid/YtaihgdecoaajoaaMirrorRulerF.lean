/-
  Closed facts on the row of the law on MirrorRuler: the function is found by its name and the row's cells fit the program. Conditions: none.
-/
import Derived.Test.YtaihgdecoaajoaaClosed
namespace Go.Proofs.Ytaihgdecoaajoaa.fnExactMirrorRuler
theorem named : Try.pinned.checked.prog.funcNamed Rows.fnExactMirrorRulerRow.func = some 9 := by kernel_rfl
theorem closed : joinedFacts Try.pinned.checked.prog 9 Try.f9 Rows.fnExactMirrorRulerSpec Rows.fnExactMirrorRulerRow = true := by
  unfold joinedFacts
  rw [enterT, finalT, makeT]
  kernel_rfl
theorem inst : Try.f9.isInstance Try.pinned.checked.prog Rows.fnExactMirrorRulerRow.origin Rows.fnExactMirrorRulerRow.targs := of_decide_eq_true (by kernel_rfl)
theorem wrap : Try.f9.isWrapper Try.pinned.checked.prog Rows.fnExactMirrorRulerRow.wrapper Rows.fnExactMirrorRulerRow.mainSum := by unfold Func.isWrapper; first | (rw [if_pos (by decide +kernel)]; kernel_rfl) | (rw [if_neg (by decide +kernel)]; exact ⟨rfl, rfl⟩)
end Go.Proofs.Ytaihgdecoaajoaa.fnExactMirrorRuler
