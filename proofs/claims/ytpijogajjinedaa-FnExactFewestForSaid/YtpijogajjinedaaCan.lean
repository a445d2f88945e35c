/-
  The laws on CanMake and WaysOf, walked: the model and the program answer alike. No condition but a length that fits int.
-/
import Derived.Test.YtpijogajjinedaaMade
namespace Go.Proofs.Ytpijogajjinedaa
open Go.RowKit

theorem ret_bb {a b c d : Bool} (h : a = b) (g : c = d) : Ending.returned (.tuple #[.bool a, .bool c]) = .returned (.tuple #[.bool b, .bool d]) := by rw [h, g]
noncomputable def canB (xs : List Int) (s : Int) : Bool := !(mdA xs s == 0)
theorem mdA_nn (xs : List Int) (s : Int) : 0 ≤ mdA xs s := by
  unfold mdA; split
  · exact (Wy_bd xs s).1
  · exact Int.le_refl _

set_option maxHeartbeats 2000000 in
theorem specCanMake_any (v : Value) (xs : List Int) (s : Int) (w : World) (h : Sv w v xs) (hl : xs.length ≤ 1099511627776) :
    Calls Try.prog 25 #[v, .int .i64 s] w fun e w' => e = .returned (.tuple #[.bool (canB xs s), .bool (askB xs s)]) ∧ Below w.heap.size w w' := by
  by_cases ha : askB xs s = true
  · have hg : goodB xs = true ∧ inB s 0 200000 = true := by simpa [askB] using ha
    have hgood := goodB_iff.1 hg.1
    have hs0 := (inB_iff.1 hg.2).1
    have R := Lib.hid (md_yes ha)
    have HA := Lib.hid ha
    go_enter Try.func25, Try.ntmps25
    go_wp2_with fail
    refine (piAsked_any _ _ _ _ h hl).mono ?_
    rintro e w1 ⟨rfl, b1⟩
    go_wp2_with fail
    refine (piMake_any _ _ _ _ (h.below b1 (Nat.le_refl _)) hgood hs0).mono ?_
    rintro e w2 ⟨rfl, b2⟩
    have b2 := nxt b1 b2
    clear ha hg
    by_cases hz : Wy xs s = 0
    · have C := Lib.hid (show canB xs s = false by unfold canB; rw [R.out.1, hz]; rfl)
      have hz2 : ¬ 0 < Wy xs s := by omega
      clear hz
      go_wp2_with fail
      go_ret2
      exact ⟨ret_bb (by rw [C.out] <;> simpa using hz2) HA.out.symm, b2⟩
    · have C := Lib.hid (show canB xs s = true by unfold canB; rw [R.out.1]; simpa using hz)
      have hz2 : 0 < Wy xs s := by have := (Wy_bd xs s).1; omega
      clear hz
      go_wp2_with fail
      go_ret2
      exact ⟨ret_bb (by rw [C.out] <;> simpa using hz2) HA.out.symm, b2⟩
  · have ha : askB xs s = false := by simpa using ha
    have Z := Lib.hid (md_no ha)
    have HA := Lib.hid ha
    go_enter Try.func25, Try.ntmps25
    go_wp2_with fail
    refine (piAsked_any _ _ _ _ h hl).mono ?_
    rintro e w1 ⟨rfl, b1⟩
    go_wp2_with fail
    go_ret2
    exact ⟨ret_bb (by unfold canB; rw [Z.out.1]; rfl) HA.out.symm, b1⟩

set_option maxHeartbeats 2000000 in
theorem implCanMake_any (v : Value) (xs : List Int) (s : Int) (w : World) (h : Sv w v xs) (hl : xs.length ≤ 1099511627776) :
    Calls Try.prog 26 #[v, .int .i64 s] w fun e w' => e = .returned (.tuple #[.bool (canB xs s), .bool (askB xs s)]) ∧ Below w.heap.size w w' := by
  by_cases hz : mdA xs s = 0
  · have Z := md_zero hz
    have C := Lib.hid (show canB xs s = false by unfold canB; rw [hz]; rfl)
    have H1 := Lib.hid hz
    have H2 := Lib.hid Z
    clear hz Z
    go_enter Try.func26, Try.ntmps26
    go_wp2_with fail
    refine (madeOf_any _ _ _ _ h hl).mono ?_
    rintro e w1 ⟨rfl, b1⟩
    rw [H1.out, H2.out.1, H2.out.2]
    go_wp2_with fail
    go_ret2
    exact ⟨ret_bb C.out.symm rfl, b1.alloc b1.size _⟩
  · have C := Lib.hid (show canB xs s = true by unfold canB; simpa using hz)
    have d : (mdA xs s == 0) = false := by simpa using hz
    clear hz
    go_enter Try.func26, Try.ntmps26
    go_wp2_with fail
    refine (madeOf_any _ _ _ _ h hl).mono ?_
    rintro e w1 ⟨rfl, b1⟩
    go_wp2_with fail
    go_ret2
    exact ⟨ret_bb C.out.symm rfl, b1.alloc b1.size _⟩

set_option maxHeartbeats 2000000 in
theorem specWaysOf_any (v : Value) (xs : List Int) (s : Int) (w : World) (h : Sv w v xs) (hl : xs.length ≤ 1099511627776) :
    Calls Try.prog 33 #[v, .int .i64 s] w fun e w' => e = .returned (.tuple #[.int .i64 (mdA xs s), .bool (askB xs s)]) ∧ Below w.heap.size w w' := by
  by_cases ha : askB xs s = true
  · have hg : goodB xs = true ∧ inB s 0 200000 = true := by simpa [askB] using ha
    have hgood := goodB_iff.1 hg.1
    have hs0 := (inB_iff.1 hg.2).1
    have R := Lib.hid (md_yes ha)
    have HA := Lib.hid ha
    go_enter Try.func33, Try.ntmps33
    go_wp2_with fail
    refine (piAsked_any _ _ _ _ h hl).mono ?_
    rintro e w1 ⟨rfl, b1⟩
    go_wp2_with fail
    refine (piMake_any _ _ _ _ (h.below b1 (Nat.le_refl _)) hgood hs0).mono ?_
    rintro e w2 ⟨rfl, b2⟩
    have b2 := nxt b1 b2
    clear ha hg
    go_wp2_with fail
    go_ret2
    exact ⟨ret_ib R.out.1.symm HA.out.symm, b2⟩
  · have ha : askB xs s = false := by simpa using ha
    have Z := Lib.hid (md_no ha)
    have HA := Lib.hid ha
    go_enter Try.func33, Try.ntmps33
    go_wp2_with fail
    refine (piAsked_any _ _ _ _ h hl).mono ?_
    rintro e w1 ⟨rfl, b1⟩
    go_wp2_with fail
    go_ret2
    exact ⟨ret_ib Z.out.1.symm HA.out.symm, b1⟩

set_option maxHeartbeats 2000000 in
theorem implWaysOf_any (v : Value) (xs : List Int) (s : Int) (w : World) (h : Sv w v xs) (hl : xs.length ≤ 1099511627776) :
    Calls Try.prog 34 #[v, .int .i64 s] w fun e w' => e = .returned (.tuple #[.int .i64 (mdA xs s), .bool (askB xs s)]) ∧ Below w.heap.size w w' := by
  go_enter Try.func34, Try.ntmps34
  go_wp2_with fail
  refine (madeOf_any _ _ _ _ h hl).mono ?_
  rintro e w1 ⟨rfl, b1⟩
  go_wp2_with fail
  go_ret2
  exact ⟨rfl, b1.alloc b1.size _⟩

set_option maxHeartbeats 2000000 in
theorem lawCanMake (v : Value) (xs : List Int) (a1 : Int) (w : World) (h : Sv w v xs) (hm : xs.length ≤ 9223372036854775807) :
    Calls Try.prog 5 #[v, .int .i64 a1] w fun e w' => e = .returned (.bool true) ∧ Below w.heap.size w w' := by
  have hs := h
  obtain ⟨p, cap, rfl, hx⟩ := h
  clear hx
  by_cases hbig : 1048576 < xs.length
  · go_enter Try.func5, Try.ntmps5
    go_wp2
    go_ret
    exact ⟨rfl, Below.refl _ _⟩
  · have hl : xs.length ≤ 1099511627776 := by omega
    go_enter Try.func5, Try.ntmps5
    go_wp2_with fail
    refine (toIntS_any _ _ _ hs hl).mono ?_
    rintro e w1 ⟨u1, rfl, o1, oa1, b1⟩
    go_wp2_with fail
    refine (specCanMake_any _ _ _ _ (o1.sp oa1).sv hl).mono ?_
    rintro e w2 ⟨rfl, b2⟩
    clear o1 oa1
    have b2 := nxt b1 b2
    clear b1
    go_wp2_with fail
    refine (toIntS_any _ _ _ (hs.below b2 (Nat.le_refl _)) hl).mono ?_
    rintro e w3 ⟨u3, rfl, o3, oa3, b3⟩
    have b3 := nxt b2 b3
    clear b2
    go_wp2_with fail
    refine (implCanMake_any _ _ _ _ (o3.sp oa3).sv hl).mono ?_
    rintro e w4 ⟨rfl, b4⟩
    have o4 := o3.below b4 (Nat.le_refl _)
    have b4 := nxt b3 b4
    clear o3 b3 oa3
    go_wp2_with fail
    refine (toIntS_any _ _ _ (hs.below b4 (Nat.le_refl _)) hl).mono ?_
    rintro e w5 ⟨u5, rfl, o5, -, b5⟩
    have o6 := o4.below b5 (Nat.le_refl _)
    have b5 := nxt b4 b5
    go_wp2_with fail
    refine (eqIntS_yes _ _ _ _ _ o6.sv o5.sv rfl hl).mono ?_
    rintro e w6 ⟨rfl, b6⟩
    have b6 := nxt b5 b6
    clear o4 o5 o6 b4 b5
    go_wp2_with fail
    go_ret
    exact ⟨rfl, b6⟩

set_option maxHeartbeats 2000000 in
theorem lawWaysOf (v : Value) (xs : List Int) (a1 : Int) (w : World) (h : Sv w v xs) (hm : xs.length ≤ 9223372036854775807) :
    Calls Try.prog 8 #[v, .int .i64 a1] w fun e w' => e = .returned (.bool true) ∧ Below w.heap.size w w' := by
  have hs := h
  obtain ⟨p, cap, rfl, hx⟩ := h
  clear hx
  by_cases hbig : 1048576 < xs.length
  · go_enter Try.func8, Try.ntmps8
    go_wp2
    go_ret
    exact ⟨rfl, Below.refl _ _⟩
  · have hl : xs.length ≤ 1099511627776 := by omega
    go_enter Try.func8, Try.ntmps8
    go_wp2_with fail
    refine (toIntS_any _ _ _ hs hl).mono ?_
    rintro e w1 ⟨u1, rfl, o1, oa1, b1⟩
    go_wp2_with fail
    refine (specWaysOf_any _ _ _ _ (o1.sp oa1).sv hl).mono ?_
    rintro e w2 ⟨rfl, b2⟩
    clear o1 oa1
    have b2 := nxt b1 b2
    clear b1
    go_wp2_with fail
    refine (toIntS_any _ _ _ (hs.below b2 (Nat.le_refl _)) hl).mono ?_
    rintro e w3 ⟨u3, rfl, o3, oa3, b3⟩
    have b3 := nxt b2 b3
    clear b2
    go_wp2_with fail
    refine (implWaysOf_any _ _ _ _ (o3.sp oa3).sv hl).mono ?_
    rintro e w4 ⟨rfl, b4⟩
    have o4 := o3.below b4 (Nat.le_refl _)
    have b4 := nxt b3 b4
    clear o3 b3 oa3
    go_wp2_with fail
    refine (toIntS_any _ _ _ (hs.below b4 (Nat.le_refl _)) hl).mono ?_
    rintro e w5 ⟨u5, rfl, o5, -, b5⟩
    have o6 := o4.below b5 (Nat.le_refl _)
    have b5 := nxt b4 b5
    go_wp2_with fail
    refine (eqIntS_yes _ _ _ _ _ o6.sv o5.sv rfl hl).mono ?_
    rintro e w6 ⟨rfl, b6⟩
    have b6 := nxt b5 b6
    clear o4 o5 o6 b4 b5
    go_wp2_with fail
    go_ret
    exact ⟨rfl, b6⟩

end Go.Proofs.Ytpijogajjinedaa
