/-
  The law on DoesFit, walked: whatever comes in, it returns true and writes nothing that was there. No condition.
-/
import Derived.Test.YtphjiicdodkfbaaYdf
import Derived.Test.YtphjiicdodkfbaaYlw
namespace Go.Proofs.Ytphjiicdodkfbaa
open Go.RowKit

set_option maxHeartbeats 8000000 in
theorem lawDoesFit (K0 A0 B0 : Int) (v1 : Value) (xs1 : List Int) (w : World) (h1 : Sv w v1 xs1) :
    Calls Try.prog 6 #[.agg #[.int .i64 K0, .int .i64 A0, .int .i64 B0], v1] w fun e w' => e = .returned (.bool true) ∧ Below w.heap.size w w' := by
  obtain ⟨W, eW⟩ : ∃ W, w.alloc (.cells #[.int .i64 K0, .int .i64 A0, .int .i64 B0] 27) = W := ⟨_, rfl⟩
  have hb0 : Below w.heap.size w W := by rw [← eW]; exact (Below.refl _ _).alloc (Nat.le_refl _) _
  have HB := Lib.hid (show W.heap[w.heap.size]? = some (.cells #[.int .i64 K0, .int .i64 A0, .int .i64 B0] 27 (0, 0)) by rw [← eW]; exact heap_alloc_new w _)
  have t : Below W.heap.size W W := Below.refl _ _
  have ZA : w.heap.size < W.heap.size := by rw [← eW]; simp
  have K1s := Lib.hid (h1.below hb0 (Nat.le_refl _))
  obtain ⟨p1, c1, rfl⟩ := h1.form
  clear h1
  by_cases hbig1 : 1048576 < xs1.length
  · go_enter Try.func6, Try.ntmps6
    go_wp2
    go_ret
    exact ⟨rfl, hb0⟩
  have l1 : xs1.length ≤ 1099511627776 := by omega
  obtain ⟨x1, x2, x3, -, -, -⟩ := cells3_of ((t.block _ ZA).trans HB.out)
  go_enter Try.func6, Try.ntmps6
  go_wp2_with fail
  clear eW
  clear x1 x2 x3
  refine (toClue_any _ _ _ _).mono ?_
  rintro e wq ⟨rfl, b⟩
  replace t := nxt t b
  clear b
  go_wp2_with fail
  refine (toIntS_any _ _ _ (K1s.out.below t (Nat.le_refl _)) l1).mono ?_
  rintro e ws ⟨ua1, rfl, oa1, -, b⟩
  replace t := nxt t b
  clear b
  go_wp2_with fail
  refine (specDoesFit_any K0 A0 B0 _ xs1 _ oa1.sv l1).mono ?_
  rintro e w2 ⟨rfl, b⟩
  clear oa1
  replace t := nxt t b
  clear b
  go_wp2_with fail
  refine (toIntS_any _ _ _ (K1s.out.below t (Nat.le_refl _)) l1).mono ?_
  rintro e ws ⟨uc1, rfl, oc1, -, b⟩
  replace t := nxt t b
  clear b
  obtain ⟨x1, x2, x3, -, -, -⟩ := cells3_of ((t.block _ ZA).trans HB.out)
  go_wp2_with fail
  clear x1 x2 x3
  refine (toClue_any _ _ _ _).mono ?_
  rintro e wq ⟨rfl, b⟩
  replace oc1 := oc1.below b (Nat.le_refl _)
  replace t := nxt t b
  clear b
  go_wp2_with fail
  refine (implDoesFit_any K0 A0 B0 _ xs1 _ oc1.sv l1).mono ?_
  rintro e w4 ⟨rfl, b⟩
  replace oc1 := oc1.below b (Nat.le_refl _)
  replace t := nxt t b
  clear b
  go_wp2_with fail
  refine (toIntS_any _ _ _ (K1s.out.below t (Nat.le_refl _)) l1).mono ?_
  rintro e w5 ⟨u51, rfl, o51, -, b⟩
  replace oc1 := oc1.below b (Nat.le_refl _)
  replace t := nxt t b
  clear b
  go_wp2_with fail
  refine (eqIntS_yes _ _ _ _ _ oc1.sv o51.sv rfl l1).mono ?_
  rintro e w6 ⟨rfl, b⟩
  clear o51
  replace oc1 := oc1.below b (Nat.le_refl _)
  replace t := nxt t b
  clear b
  go_wp2_with fail
  go_ret
  exact ⟨rfl, nxt hb0 t⟩

end Go.Proofs.Ytphjiicdodkfbaa
