/-
  IsRuler, LengthsOf, MissingLengths, IsComplete, WaysToMeasure, IsSparse and RunOfRuler in the model, by their contracts. Condition: slices of at most 2^40 numbers.
-/
import Derived.Test.YthienikceehcoaaRwi
namespace Go.Proofs.Ythienikceehcoaa
open Go.RowKit

noncomputable def leR (ms : List Int) : List Int := if rulB ms = true then wiK ms true ((lastM ms).toNat + 1) else []
theorem leR_len (ms : List Int) : (leR ms).length ≤ 1099511627776 := by
  unfold leR
  split
  · rename_i h
    have := (rulB_iff.1 h).last_bd
    have := wiK_len ms true ((lastM ms).toNat + 1)
    omega
  · simp

set_option maxHeartbeats 4000000 in
set_option maxRecDepth 20000 in
theorem specLengthsOf_any (v : Value) (ms : List Int) (w : World) (h : Sp w v ms) (hl : ms.length ≤ 1099511627776) :
    Calls Try.prog 7 #[v] w fun e w' => ∃ u, e = .returned (.tuple #[u, .bool (rulB ms)]) ∧ Ow w' w.heap.size u (leR ms) ∧ Below w.heap.size w w' := by
  have HS := Lib.hid h.sv
  by_cases hg : rulB ms = true
  · have S := rulB_iff.1 hg
    have HT := Lib.hid S
    have HP := Lib.hid h
    have RG := Lib.hid (ruGood_any v ms w HS.out hl)
    rw [hg] at RG
    have Q := Lib.hid (show leR ms = wiK ms true ((lastM ms).toNat + 1) by simp [leR, hg])
    rw [hg]
    clear S h
    go_enter Try.func7, Try.ntmps7
    go_wp2_with fail
    refine RG.out.mono ?_
    rintro e w1 ⟨rfl, b1⟩
    clear RG
    go_wp2_with fail
    refine (ruWith_true _ _ _ (HP.out.below b1 (Nat.le_refl _)) HT.out).mono ?_
    rintro e w2 ⟨u, rfl, o, b2⟩
    have o := o.mono b1.size
    go_wp2_with fail
    go_ret2
    exact ⟨_, rfl, by rw [Q.out]; exact o, nxt b1 b2⟩
  · have hg : rulB ms = false := by simpa using hg
    have Q := Lib.hid (show leR ms = [] by simp [leR, hg])
    rw [hg]
    have RG := Lib.hid (ruGood_any v ms w HS.out hl)
    rw [hg] at RG
    clear h
    go_enter Try.func7, Try.ntmps7
    go_wp2_with fail
    refine RG.out.mono ?_
    rintro e w1 ⟨rfl, b1⟩
    go_wp2_with fail
    go_ret2
    exact ⟨_, rfl, by rw [Q.out]; exact World.ownsRow_nil _ _ _ _, b1⟩

end Go.Proofs.Ythienikceehcoaa
