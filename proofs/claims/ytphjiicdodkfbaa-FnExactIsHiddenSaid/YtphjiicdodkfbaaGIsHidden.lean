/-
  The law on IsHidden, walked: whatever comes in, it returns true and writes nothing that was there. No condition.
-/
import Derived.Test.YtphjiicdodkfbaaYis
import Derived.Test.YtphjiicdodkfbaaYlw
namespace Go.Proofs.Ytphjiicdodkfbaa
open Go.RowKit

set_option maxHeartbeats 8000000 in
theorem lawIsHidden (v0 : Value) (xs0 : List Int) (w : World) (h0 : Sv w v0 xs0) :
    Calls Try.prog 3 #[v0] w fun e w' => e = .returned (.bool true) ∧ Below w.heap.size w w' := by
  obtain ⟨W, eW⟩ : ∃ W, w = W := ⟨_, rfl⟩
  have hb0 : Below w.heap.size w W := by rw [← eW]; exact Below.refl _ _
  have t : Below W.heap.size W W := Below.refl _ _
  have K0s := Lib.hid (h0.below hb0 (Nat.le_refl _))
  obtain ⟨p0, c0, rfl⟩ := h0.form
  clear h0
  subst eW
  by_cases hbig0 : 1048576 < xs0.length
  · go_enter Try.func3, Try.ntmps3
    go_wp2
    go_ret
    exact ⟨rfl, Below.refl _ _⟩
  have l0 : xs0.length ≤ 1099511627776 := by omega
  go_enter Try.func3, Try.ntmps3
  go_wp2_with fail
  refine (toIntS_any _ _ _ (K0s.out.below t (Nat.le_refl _)) l0).mono ?_
  rintro e ws ⟨ua0, rfl, oa0, -, b⟩
  replace t := nxt t b
  clear b
  go_wp2_with fail
  refine (specIsHidden_any _ xs0 _ oa0.sv l0).mono ?_
  rintro e w2 ⟨rfl, b⟩
  clear oa0
  replace t := nxt t b
  clear b
  go_wp2_with fail
  refine (toIntS_any _ _ _ (K0s.out.below t (Nat.le_refl _)) l0).mono ?_
  rintro e ws ⟨uc0, rfl, oc0, -, b⟩
  replace t := nxt t b
  clear b
  go_wp2_with fail
  refine (implIsHidden_any _ xs0 _ oc0.sv l0).mono ?_
  rintro e w4 ⟨rfl, b⟩
  replace oc0 := oc0.below b (Nat.le_refl _)
  replace t := nxt t b
  clear b
  go_wp2_with fail
  refine (toIntS_any _ _ _ (K0s.out.below t (Nat.le_refl _)) l0).mono ?_
  rintro e w5 ⟨u50, rfl, o50, -, b⟩
  replace oc0 := oc0.below b (Nat.le_refl _)
  replace t := nxt t b
  clear b
  go_wp2_with fail
  refine (eqIntS_yes _ _ _ _ _ oc0.sv o50.sv rfl l0).mono ?_
  rintro e w6 ⟨rfl, b⟩
  clear o50
  replace oc0 := oc0.below b (Nat.le_refl _)
  replace t := nxt t b
  clear b
  go_wp2_with fail
  go_ret
  exact ⟨rfl, t⟩

end Go.Proofs.Ytphjiicdodkfbaa
