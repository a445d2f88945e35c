/-
  The law on CanChange, walked: whatever comes in, it returns true and writes nothing that was there. No condition.
-/
import Derived.Test.YtdgadabfahmdmaaVdc
namespace Go.Proofs.Ytdgadabfahmdmaa
open Go.RowKit

set_option maxHeartbeats 4000000 in
theorem lawCanChange (v0 : Value) (xs0 : List Int) (v1 : Value) (xs1 : List Int) (a2 : Int) (w : World) (h0 : Sv w v0 xs0) (h1 : Sv w v1 xs1) :
    Calls Try.prog 12 #[v0, v1, .int .i64 a2] w fun e w' => e = .returned (.bool true) ∧ Below w.heap.size w w' := by
  have K0 := Lib.hid h0
  obtain ⟨p0, c0, rfl, -⟩ := h0
  have K1 := Lib.hid h1
  obtain ⟨p1, c1, rfl, -⟩ := h1
  by_cases hbig0 : 1048576 < xs0.length
  · go_enter Try.func12, Try.ntmps12
    go_wp2
    go_ret
    exact ⟨rfl, Below.refl _ _⟩
  have l0 : xs0.length ≤ 1099511627776 := by omega
  by_cases hbig1 : 1048576 < xs1.length
  · go_enter Try.func12, Try.ntmps12
    go_wp2
    go_ret
    exact ⟨rfl, Below.refl _ _⟩
  have l1 : xs1.length ≤ 1099511627776 := by omega
  go_enter Try.func12, Try.ntmps12
  go_wp2_with fail
  refine (toIntS_any _ _ _ (K0.out.below (Below.refl w.heap.size w) (Nat.le_refl _)) l0).mono ?_
  rintro e wa0 ⟨ua0, rfl, oa0, qa0, ba0⟩
  have t1 := nxt (Below.refl w.heap.size w) ba0
  go_wp2_with fail
  refine (toIntS_any _ _ _ (K1.out.below t1 (Nat.le_refl _)) l1).mono ?_
  rintro e wa1 ⟨ua1, rfl, oa1, qa1, ba1⟩
  have oa0 := oa0.below ba1 (Nat.le_refl _)
  have t2 := nxt t1 ba1
  go_wp2_with fail
  refine (specCanChange_any _ _ _ _ _ _ (oa0.sp qa0) l0 (oa1.sp qa1) l1).mono ?_
  rintro e w2 ⟨rfl, b2⟩
  have t3 := nxt t2 b2
  clear oa0 qa0 oa1 qa1
  go_wp2_with fail
  refine (toIntS_any _ _ _ (K0.out.below t3 (Nat.le_refl _)) l0).mono ?_
  rintro e wc0 ⟨uc0, rfl, oc0, qc0, bc0⟩
  have t4 := nxt t3 bc0
  go_wp2_with fail
  refine (toIntS_any _ _ _ (K1.out.below t4 (Nat.le_refl _)) l1).mono ?_
  rintro e wc1 ⟨uc1, rfl, oc1, qc1, bc1⟩
  have oc0 := oc0.below bc1 (Nat.le_refl _)
  have t5 := nxt t4 bc1
  go_wp2_with fail
  refine (implCanChange_any _ _ _ _ _ _ (oc0.sp qc0) l0 (oc1.sp qc1) l1).mono ?_
  rintro e w4 ⟨rfl, b4⟩
  have oc0 := oc0.below b4 (Nat.le_refl _)
  have oc1 := oc1.below b4 (Nat.le_refl _)
  have t6 := nxt t5 b4
  clear qc0 qc1
  go_wp2_with fail
  refine (toIntS_any _ _ _ (K0.out.below t6 (Nat.le_refl _)) l0).mono ?_
  rintro e w50 ⟨u50, rfl, o50, -, b50⟩
  have oc0 := oc0.below b50 (Nat.le_refl _)
  have oc1 := oc1.below b50 (Nat.le_refl _)
  have t7 := nxt t6 b50
  go_wp2_with fail
  refine (eqIntS_yes _ _ _ _ _ oc0.sv o50.sv rfl l0).mono ?_
  rintro e w60 ⟨rfl, b60⟩
  have oc1 := oc1.below b60 (Nat.le_refl _)
  have t8 := nxt t7 b60
  clear oc0 o50
  go_wp2_with fail
  refine (toIntS_any _ _ _ (K1.out.below t8 (Nat.le_refl _)) l1).mono ?_
  rintro e w51 ⟨u51, rfl, o51, -, b51⟩
  have oc1 := oc1.below b51 (Nat.le_refl _)
  have t9 := nxt t8 b51
  go_wp2_with fail
  refine (eqIntS_yes _ _ _ _ _ oc1.sv o51.sv rfl l1).mono ?_
  rintro e w61 ⟨rfl, b61⟩
  have t10 := nxt t9 b61
  clear oc1 o51
  go_wp2_with fail
  go_ret
  exact ⟨rfl, t10⟩

end Go.Proofs.Ytdgadabfahmdmaa
