/-
  Closed facts on the row of the law on GrowRuler: the function is found by its name and the row's cells fit the program. Conditions: none.
-/
import Derived.Test.YtaihgdecoaajoaaClosed
namespace Go.Proofs.Ytaihgdecoaajoaa.fnExactGrowRuler
theorem named : Try.pinned.checked.prog.funcNamed Rows.fnExactGrowRulerRow.func = some 19 := by kernel_rfl
theorem closed : joinedFacts Try.pinned.checked.prog 19 Try.f19 Rows.fnExactGrowRulerSpec Rows.fnExactGrowRulerRow = true := by
  unfold joinedFacts
  rw [enterT, finalT, makeT]
  kernel_rfl
theorem inst : Try.f19.isInstance Try.pinned.checked.prog Rows.fnExactGrowRulerRow.origin Rows.fnExactGrowRulerRow.targs := of_decide_eq_true (by kernel_rfl)
theorem wrap : Try.f19.isWrapper Try.pinned.checked.prog Rows.fnExactGrowRulerRow.wrapper Rows.fnExactGrowRulerRow.mainSum := by unfold Func.isWrapper; first | (rw [if_pos (by decide +kernel)]; kernel_rfl) | (rw [if_neg (by decide +kernel)]; exact ⟨rfl, rfl⟩)
end Go.Proofs.Ytaihgdecoaajoaa.fnExactGrowRuler
