/-
  The law on ChangeFrom, walked: whatever comes in, it returns true and writes nothing that was there. No condition.
-/
import Derived.Test.YtdgadabfahmdmaaVdm
namespace Go.Proofs.Ytdgadabfahmdmaa
open Go.RowKit

set_option maxHeartbeats 4000000 in
theorem lawChangeFrom (v0 : Value) (xs0 : List Int) (v1 : Value) (xs1 : List Int) (a2 : Int) (w : World) (h0 : Sv w v0 xs0) (h1 : Sv w v1 xs1) :
    Calls Try.prog 13 #[v0, v1, .int .i64 a2] w fun e w' => e = .returned (.bool true) ∧ Below w.heap.size w w' := by
  have K0 := Lib.hid h0
  obtain ⟨p0, c0, rfl, -⟩ := h0
  have K1 := Lib.hid h1
  obtain ⟨p1, c1, rfl, -⟩ := h1
  by_cases hbig0 : 1048576 < xs0.length
  · go_enter Try.func13, Try.ntmps13
    go_wp2
    go_ret
    exact ⟨rfl, Below.refl _ _⟩
  have l0 : xs0.length ≤ 1099511627776 := by omega
  by_cases hbig1 : 1048576 < xs1.length
  · go_enter Try.func13, Try.ntmps13
    go_wp2
    go_ret
    exact ⟨rfl, Below.refl _ _⟩
  have l1 : xs1.length ≤ 1099511627776 := by omega
  have hyl : (cfR xs0 xs1 a2).length ≤ 1099511627776 := (cfR_len xs0 xs1 a2 l0)
  go_enter Try.func13, Try.ntmps13
  go_wp2_with fail
  refine (toIntS_any _ _ _ (K0.out.below (Below.refl w.heap.size w) (Nat.le_refl _)) l0).mono ?_
  rintro e wa0 ⟨ua0, rfl, oa0, qa0, ba0⟩
  have t1 := nxt (Below.refl w.heap.size w) ba0
  go_wp2_with fail
  refine (toIntS_any _ _ _ (K1.out.below t1 (Nat.le_refl _)) l1).mono ?_
  rintro e wa1 ⟨ua1, rfl, oa1, qa1, ba1⟩
  have oa0 := oa0.below ba1 (Nat.le_refl _)
  have t2 := nxt t1 ba1
  go_wp2_with fail
  refine (specChangeFrom_any _ _ _ _ _ _ (oa0.sp qa0) l0 (oa1.sp qa1) l1).mono ?_
  rintro e w2 ⟨v2, rfl, o2, b2⟩
  have z2' := t2.size
  have o2 := o2.mono z2'
  have t3 := nxt t2 b2
  clear oa0 qa0 oa1 qa1 b2 ba0 ba1
  go_wp2_with fail
  refine (toIntS_any _ _ _ (K0.out.below t3 (Nat.le_refl _)) l0).mono ?_
  rintro e w3 ⟨u3, rfl, o3, a3, b3⟩
  have z2 := t3.size
  have p2 := ap_below o2 a3 (Nat.le_refl _)
  have lt3 := own_lt o3 a3
  have q2 := o2.below b3 (Nat.le_refl _)
  have t4 := nxt t3 b3
  have b3z := b3.size
  clear b3 o2
  go_wp2_with fail
  refine (toIntS_any _ _ _ (K1.out.below t4 (Nat.le_refl _)) l1).mono ?_
  rintro e w3b ⟨u3b, rfl, o3b, a3b, b3b⟩
  have z3 := t4.size
  have p2b := ap_below q2 a3b (Nat.le_refl _)
  have lt3b := own_lt o3b a3b
  have p33 := ap_above o3b a3 lt3
  have q2 := q2.below b3b (Nat.le_refl _)
  have q3 := o3.below b3b (Nat.le_refl _)
  have t5 := nxt t4 b3b
  have b3bz := b3b.size
  clear b3b o3
  go_wp2_with fail
  refine (implChangeFrom_any _ _ _ _ _ _ (q3.sp a3) l0 (o3b.sp a3b) l1).mono ?_
  rintro e w4 ⟨g4, rfl, o4, b4⟩
  have z4 := t5.size
  have p4 := ap_above o4 a3 (by omega)
  have p4b := ap_above o4 a3b (by omega)
  have p24 := ap_two q2 o4 (by omega)
  have o4 := o4.mono z4
  have q2 := q2.below b4 (Nat.le_refl _)
  have q3 := q3.below b4 (Nat.le_refl _)
  have q3b := o3b.below b4 (Nat.le_refl _)
  have t6 := nxt t5 b4
  clear b4 o3b
  go_wp2_with fail
  refine (eqIntS_yes _ _ _ _ _ o4.sv q2.sv rfl hyl).mono ?_
  rintro e w5 ⟨rfl, b5⟩
  have o4 := o4.below b5 (Nat.le_refl _)
  have q2 := q2.below b5 (Nat.le_refl _)
  have q3 := q3.below b5 (Nat.le_refl _)
  have q3b := q3b.below b5 (Nat.le_refl _)
  have t7 := nxt t6 b5
  clear b5 t6
  go_wp2_with fail
  refine (toIntS_any _ _ _ (K0.out.below t7 (Nat.le_refl _)) l0).mono ?_
  rintro e w6 ⟨u6, rfl, o6, -, b6⟩
  have o4 := o4.below b6 (Nat.le_refl _)
  have q2 := q2.below b6 (Nat.le_refl _)
  have q3 := q3.below b6 (Nat.le_refl _)
  have q3b := q3b.below b6 (Nat.le_refl _)
  have t8 := nxt t7 b6
  clear b6 t7
  go_wp2_with fail
  refine (eqIntS_yes _ _ _ _ _ q3.sv o6.sv rfl l0).mono ?_
  rintro e w7 ⟨rfl, b7⟩
  have o4 := o4.below b7 (Nat.le_refl _)
  have q2 := q2.below b7 (Nat.le_refl _)
  have q3 := q3.below b7 (Nat.le_refl _)
  have q3b := q3b.below b7 (Nat.le_refl _)
  have t9 := nxt t8 b7
  clear b7 t8 o6
  go_wp2_with fail
  refine (toIntS_any _ _ _ (K1.out.below t9 (Nat.le_refl _)) l1).mono ?_
  rintro e w6b ⟨u6b, rfl, o6b, -, b6b⟩
  have o4 := o4.below b6b (Nat.le_refl _)
  have q2 := q2.below b6b (Nat.le_refl _)
  have q3 := q3.below b6b (Nat.le_refl _)
  have q3b := q3b.below b6b (Nat.le_refl _)
  have t10 := nxt t9 b6b
  clear b6b t9
  go_wp2_with fail
  refine (eqIntS_yes _ _ _ _ _ q3b.sv o6b.sv rfl l1).mono ?_
  rintro e w7b ⟨rfl, b7b⟩
  have o4 := o4.below b7b (Nat.le_refl _)
  have q2 := q2.below b7b (Nat.le_refl _)
  have q3 := q3.below b7b (Nat.le_refl _)
  have q3b := q3b.below b7b (Nat.le_refl _)
  have t11 := nxt t10 b7b
  have z11 := t11.size
  clear b7b t10 o6b
  go_wp2_with fail
  refine (markIntS_any _ xs0 _ 1 _ q3 l0 (by omega) (by omega)).mono ?_
  rintro e w8 ⟨rfl, -, g8⟩
  have o4 := o4.kept g8 p4
  have q2 := q2.kept g8 p2
  have q3b := q3b.kept g8 p33
  have t12 := t11.trans (q3.marked z2 (Nat.le_of_lt (own_lt q3 a3)) g8)
  have z12 := t12.size
  clear q3 g8 t11
  go_wp2_with fail
  refine (markIntS_any _ xs1 _ _ _ q3b l1 (by omega) (by omega)).mono ?_
  rintro e w8b ⟨rfl, -, g8b⟩
  have hk8 : ¬ (1 + (xs0.length : Int) + (xs1.length : Int) < 0) := by omega
  have o4 := o4.kept g8b p4b
  have q2 := q2.kept g8b p2b
  have t13 := t12.trans (q3b.marked z3 (Nat.le_of_lt (own_lt q3b a3b)) g8b)
  have z13 := t13.size
  clear q3b g8b t12 a3 a3b
  go_wp2_with fail
  refine (eqIntS_yes _ _ _ _ _ o4.sv q2.sv rfl hyl).mono ?_
  rintro e w9 ⟨rfl, b9⟩
  have o4 := o4.below b9 (Nat.le_refl _)
  have q2 := q2.below b9 (Nat.le_refl _)
  have t14 := nxt t13 b9
  have z14 := t14.size
  clear b9 t13
  go_wp2_with fail
  refine (markIntS_any _ (cfR xs0 xs1 a2) _ 1 _ o4 hyl (by omega) (by omega)).mono ?_
  rintro e w10 ⟨rfl, o10, g10⟩
  have q2 := q2.kept g10 p24
  have t15 := t14.trans (o4.marked (Nat.le_refl _) z14 g10)
  clear o4 g10 t14
  go_wp2_with fail
  refine (heldIntS_any _ (cfR xs0 xs1 a2).length 1 _ o10.sv hyl (by omega) (by omega)).mono ?_
  rintro e w10' ⟨rfl, rfl⟩
  go_wp2_with fail
  refine (toIntS_any _ _ _ (K0.out.below t15 (Nat.le_refl _)) l0).mono ?_
  rintro e w11 ⟨u11, rfl, o11, a11, b11⟩
  have o10 := o10.below b11 (Nat.le_refl _)
  have q2 := q2.below b11 (Nat.le_refl _)
  have t16 := nxt t15 b11
  clear b11 t15
  go_wp2_with fail
  refine (toIntS_any _ _ _ (K1.out.below t16 (Nat.le_refl _)) l1).mono ?_
  rintro e w11b ⟨u11b, rfl, o11b, a11b, b11b⟩
  have o10 := o10.below b11b (Nat.le_refl _)
  have q2 := q2.below b11b (Nat.le_refl _)
  have o11 := o11.below b11b (Nat.le_refl _)
  have t17 := nxt t16 b11b
  clear b11b t16
  go_wp2_with fail
  refine (implChangeFrom_any _ _ _ _ _ _ (o11.sp a11) l0 (o11b.sp a11b) l1).mono ?_
  rintro e w12 ⟨h12, rfl, o12, b12⟩
  have o10 := o10.below b12 (Nat.le_refl _)
  have q2 := q2.below b12 (Nat.le_refl _)
  have t18 := nxt t17 b12
  clear b12 t17 o11 a11 o11b a11b
  go_wp2_with fail
  refine (eqIntS_yes _ _ _ _ _ o12.sv q2.sv rfl hyl).mono ?_
  rintro e w13 ⟨rfl, b13⟩
  have o10 := o10.below b13 (Nat.le_refl _)
  have t19 := nxt t18 b13
  clear b13 t18 o12 q2
  go_wp2_with fail
  refine (heldIntS_any _ (cfR xs0 xs1 a2).length 1 _ o10.sv hyl (by omega) (by omega)).mono ?_
  rintro e w13' ⟨rfl, rfl⟩
  go_wp2_with fail
  go_ret
  exact ⟨rfl, t19⟩

end Go.Proofs.Ytdgadabfahmdmaa
