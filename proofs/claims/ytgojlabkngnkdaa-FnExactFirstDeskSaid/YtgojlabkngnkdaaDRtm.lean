/-
  Whether there is a ruler, how many pairs measure each length, and the lengths that are measured or are not: the model's functions, by their contracts. Conditions: slices of at most 2^40 numbers; the last two speak of rulers.
-/
import Derived.Test.YtgojlabkngnkdaaDRis
namespace Go.Proofs.Ytgojlabkngnkdaa
open Go.RowKit

set_option maxHeartbeats 2000000 in
set_option maxRecDepth 20000 in
theorem ruGood_any (v : Value) (ms : List Int) (w : World) (h : Sv w v ms) (hl : ms.length ≤ 1099511627776) :
    Calls Try.prog 58 #[v] w fun e w' => e = .returned (.bool (rulB ms)) ∧ Below w.heap.size w w' := by
  have hs := h
  obtain ⟨p, cap, rfl, hx⟩ := h
  by_cases h2 : 2 ≤ ms.length
  · have RI := Lib.hid (l1Rising_any _ ms 0 60 w hs hl)
    obtain ⟨b, off, rfl, hbl, hc⟩ := hx (by omega)
    have hcell0 := hc 0 (by omega)
    rw [Nat.add_zero] at hcell0
    have RB := rulB_ris h2
    obtain ⟨x, ex⟩ : ∃ x, ms.getD 0 0 = x := ⟨_, rfl⟩
    rw [ex] at hcell0 RB
    have RB := Lib.hid RB
    have d2 : decide ((2 : Int) ≤ (ms.length : Int)) = true := by simp; omega
    have hn0 : (0 : Int) < ms.length := by omega
    clear hc hx ex h2 hs
    by_cases hr : risB ms 0 60 = true
    · rw [hr] at RI RB
      go_enter Try.func58, Try.ntmps58
      go_wp2_with fail
      refine RI.out.mono ?_
      rintro e w1 ⟨rfl, b1⟩
      have hcell := (b1.cell (p := ⟨b, off, none⟩) hbl).trans hcell0
      go_wp2_with fail
      go_ret
      exact ⟨ret_bool (by rw [RB.out]; simp), b1⟩
    · have hr : risB ms 0 60 = false := by simpa using hr
      rw [hr] at RI RB
      go_enter Try.func58, Try.ntmps58
      go_wp2_with fail
      refine RI.out.mono ?_
      rintro e w1 ⟨rfl, b1⟩
      go_wp2_with fail
      go_ret
      exact ⟨ret_bool (by rw [RB.out]; simp), b1⟩
  · have RB := Lib.hid (rulB_no fun g => h2 g.two)
    have d2 : decide ((2 : Int) ≤ (ms.length : Int)) = false := by simp; omega
    clear hx h2 hs
    go_enter Try.func58, Try.ntmps58
    go_wp2_with fail
    go_ret
    exact ⟨ret_bool RB.out.symm, Below.refl _ _⟩

end Go.Proofs.Ytgojlabkngnkdaa
