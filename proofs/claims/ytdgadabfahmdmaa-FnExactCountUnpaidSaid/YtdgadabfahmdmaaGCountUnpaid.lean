/-
  The law on CountUnpaid, walked: whatever comes in, it returns true and writes nothing that was there. No condition.
-/
import Derived.Test.YtdgadabfahmdmaaVun
import Derived.Test.YtdgadabfahmdmaaVub
namespace Go.Proofs.Ytdgadabfahmdmaa
open Go.RowKit

set_option maxHeartbeats 4000000 in
theorem lawCountUnpaid (v0 : Value) (xs0 : List Int) (w : World) (h0 : Sv w v0 xs0) :
    Calls Try.prog 15 #[v0] w fun e w' => e = .returned (.bool true) ∧ Below w.heap.size w w' := by
  have K0 := Lib.hid h0
  obtain ⟨p0, c0, rfl, -⟩ := h0
  by_cases hbig0 : 1048576 < xs0.length
  · go_enter Try.func15, Try.ntmps15
    go_wp2
    go_ret
    exact ⟨rfl, Below.refl _ _⟩
  have l0 : xs0.length ≤ 1099511627776 := by omega
  go_enter Try.func15, Try.ntmps15
  go_wp2_with fail
  refine (toIntS_any _ _ _ (K0.out.below (Below.refl w.heap.size w) (Nat.le_refl _)) l0).mono ?_
  rintro e wa0 ⟨ua0, rfl, oa0, qa0, ba0⟩
  have t1 := nxt (Below.refl w.heap.size w) ba0
  go_wp2_with fail
  refine (specCountUnpaid_any _ _ _ (oa0.sp qa0) l0).mono ?_
  rintro e w2 ⟨rfl, b2⟩
  have t2 := nxt t1 b2
  clear oa0 qa0
  go_wp2_with fail
  refine (toIntS_any _ _ _ (K0.out.below t2 (Nat.le_refl _)) l0).mono ?_
  rintro e wc0 ⟨uc0, rfl, oc0, qc0, bc0⟩
  have t3 := nxt t2 bc0
  go_wp2_with fail
  refine (implCountUnpaid_any _ _ _ (oc0.sp qc0) l0).mono ?_
  rintro e w4 ⟨rfl, b4⟩
  have oc0 := oc0.below b4 (Nat.le_refl _)
  have t4 := nxt t3 b4
  clear qc0
  go_wp2_with fail
  refine (toIntS_any _ _ _ (K0.out.below t4 (Nat.le_refl _)) l0).mono ?_
  rintro e w50 ⟨u50, rfl, o50, -, b50⟩
  have oc0 := oc0.below b50 (Nat.le_refl _)
  have t5 := nxt t4 b50
  go_wp2_with fail
  refine (eqIntS_yes _ _ _ _ _ oc0.sv o50.sv rfl l0).mono ?_
  rintro e w60 ⟨rfl, b60⟩
  have t6 := nxt t5 b60
  clear oc0 o50
  go_wp2_with fail
  go_ret
  exact ⟨rfl, t6⟩

end Go.Proofs.Ytdgadabfahmdmaa
