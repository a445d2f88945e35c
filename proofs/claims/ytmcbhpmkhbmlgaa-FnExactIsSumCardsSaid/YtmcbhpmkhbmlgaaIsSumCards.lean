/-
  The law on IsSumCards holds: whatever comes in, the program's answer and the model's agree and nothing that was there is written. No condition.
-/
import Derived.Test.YtmcbhpmkhbmlgaaIsSumCardsF
import Derived.Test.YtmcbhpmkhbmlgaaClosed
import Derived.Test.YtmcbhpmkhbmlgaaGIsSumCards
import Derived.Test.YtmcbhpmkhbmlgaaProw4
import Derived.Lib.SmallJoins
import Derived.ChangeMaps5
import Derived.WalkKit
import Derived.ProofKit
import Derived.OpenShut
import Derived.ShutString
import Derived.ChangeOld
import Derived.Below
namespace Go.Proofs.Ytmcbhpmkhbmlgaa.fnExactIsSumCards
open Go.ChangeShapes Go.WideShapes Go.ChangeAt Go.RowKit Go.Deep Go.Joins
open Go.ChangeMaps (open_string shut_string)
set_option linter.unusedVariables false

theorem own : ownKnob Try.prog.godebug = none := ownT
theorem laidOut : laidOutB Try.prog = true := laidOutT

set_option maxRecDepth 100000 in
theorem lifted (os : Os) (started : os.Started) (H : Type) (enc : TypeId × Value → H) :
    ReturnsInHanded {} Try.checked os 9 .any (Rows.fnExactIsSumCardsSpec.pre6 enc Try.prog Try.f9 Rows.fnExactIsSumCardsRow.domain false) (Rows.fnExactIsSumCardsSpec.post enc Try.prog Try.f9 false true false false) := by
  refine returnsInHanded_of_change (C := Try.checked) own started (by kernel_rfl) Try.func9
    (ChangeSpec.witness6 (enc := enc) (C := Try.checked) false ⟨#[], #[.agg #[.int .i64 0, .slice none 0 0]], []⟩ 8 (by kernel_rfl) (by kernel_rfl) (by kernel_rfl) (by kernel_rfl)) ?_
  intro W base args ds gs before hval0 hW hcnd _
  have hval : ∀ (j : Nat) t v, Try.f9.params[j]? = some t → args[j]? = some v → Value.okWide Try.prog W .any base t v := hval0
  have hW' := hW
  obtain ⟨p, q, hA0, hV, rfl, hfz, hnd⟩ := hW
  have hA : DataW.TrodAll enc Try.prog W 0 (fun _ => true) true Try.f9.params.toList args.toList ds p := hA0
  rw [Try.params9] at hA hval
  obtain ⟨v0, vs0, d0, ds0, p0, q0, hargs, rfl, rfl, h0, r0⟩ := trodAll_cons hA
  obtain ⟨rfl, rfl, rfl⟩ := trodAll_nil r0
  obtain rfl : args = #[v0] := by cases args; simp_all
  obtain ⟨rfl, rfl⟩ := trodVars_none hV
  have k0 := h0
  have lt0 : ∀ x ∈ p0, x.block < W.heap.size := by obtain ⟨m, hm⟩ := k0; exact DataW.trod_lt m _ _ _ hm
  obtain ⟨c0, c1, y0, y1, m0, rfl, rfl, rfl, hy0, hy1⟩ := open_agg2 Try.underlying33 (by kernel_rfl) (show Try.prog.cellsOf 33 = 2 by kernel_rfl) (hval 0 33 v0 rfl rfl) h0
  obtain ⟨n0, e0, e9, w0⟩ := DataW.trod_int Try.underlying3 hy0
  simp only [List.cons.injEq, and_true] at e0
  subst e0
  obtain ⟨pl, s0, b0, r0x⟩ : ∃ pl : List (List Int), Svv W c1 pl ∧ pl.length ≤ 9223372036854775807 ∧ ∀ j, j < pl.length → (rowL pl j).length ≤ 9223372036854775807 := by
    rcases open_int_rows Try.underlying31 Try.underlying22 Try.underlying3 (by kernel_rfl) (by kernel_rfl) hy1 with ⟨hcs, _⟩ | ⟨x, l, c, AA, LL, CC, ZZ, hcs, _, hl, hm, _, hrows⟩
    · simp only [List.cons.injEq, and_true] at hcs
      subst hcs
      exact ⟨[], svv_nil W, by simp, fun j hj => by simp at hj⟩
    · simp only [List.cons.injEq, and_true] at hcs
      subst hcs
      obtain ⟨pl, e1, e2, e3⟩ := svv_of_rows hl (fun r hr => by
        have R := hrows r hr
        exact ⟨R.1, R.2.1, R.2.2.1, R.2.2.2.1, R.2.2.2.2.2.1, fun a' ha i hi => (R.2.2.2.2.2.2 a' ha).2 i hi⟩)
      unfold maxLen at hm
      exact ⟨pl, e2, by omega, e3⟩
  clear hA0 hval0
  refine (lawIsSumCards n0 _ pl W s0 b0 r0x ).mono fun e W' ⟨he, bel⟩ => ?_
  subst he
  exact ⟨_, rfl, _, _, _, [], _, [], hW', trodAll_mk1 (shut_bool Try.underlying4 _), (trodAll_cons_mk (Below.trod laidOut (by kernel_rfl) (of_decide_eq_true (by kernel_rfl)) k0 bel lt0) trodAll_mk0), rfl, bel.frame _, fun h => by cases h⟩

theorem over : Rows.fnExactIsSumCardsRow.holds Try.pinned (OpenSpec.ofChange Rows.fnExactIsSumCardsSpec) :=
  OpenClaim.holds_of_wide 9 Try.f9 rfl rfl rfl rfl rfl rfl rfl ⟨rfl, rfl, rfl, rfl, rfl⟩ rfl rfl rfl rfl rfl named Try.func9 closed inst wrap
    (fun os started H enc _ => lifted os started H enc)

theorem proved : Rows.FnExactIsSumCardsSaid := over
#print axioms proved
end Go.Proofs.Ytmcbhpmkhbmlgaa.fnExactIsSumCards
