/-
  The law on NeedlessCoins, walked: whatever comes in, it returns true and writes nothing that was there. No condition.
-/
import Derived.Test.YtdgadabfahmdmaaVnl
import Derived.Test.YtdgadabfahmdmaaVnm
namespace Go.Proofs.Ytdgadabfahmdmaa
open Go.RowKit

set_option maxHeartbeats 4000000 in
theorem lawNeedlessCoins (v : Value) (xs : List Int) (w : World) (h : Sv w v xs) :
    Calls Try.prog 16 #[v] w fun e w' => e = .returned (.bool true) ∧ Below w.heap.size w w' := by
  have hs := h
  obtain ⟨p, cap, rfl, hx⟩ := h
  clear hx
  by_cases hbig : 1048576 < xs.length
  · go_enter Try.func16, Try.ntmps16
    go_wp2
    go_ret
    exact ⟨rfl, Below.refl _ _⟩
  · have hl : xs.length ≤ 1099511627776 := by omega
    have hyl : (neR xs ).length ≤ 1099511627776 := (neR_len xs hl)
    go_enter Try.func16, Try.ntmps16
    go_wp2_with fail
    refine (toIntS_any _ _ _ hs hl).mono ?_
    rintro e w1 ⟨u1, rfl, o1, a1', b1⟩
    go_wp2_with fail
    refine (specNeedlessCoins_any _ _ _ (o1.sp a1') hl).mono ?_
    rintro e w2 ⟨v2, rfl, o2, b2⟩
    have z1 := b1.size
    have o2 := o2.mono z1
    have t2 := nxt b1 b2
    clear o1 b1 b2 a1'
    go_wp2_with fail
    refine (toIntS_any _ _ _ (hs.below t2 (Nat.le_refl _)) hl).mono ?_
    rintro e w3 ⟨u3, rfl, o3, a3, b3⟩
    have z2 := t2.size
    have p2 := ap_below o2 a3 (Nat.le_refl _)
    have lt3 := own_lt o3 a3
    have q2 := o2.below b3 (Nat.le_refl _)
    have t3 := nxt t2 b3
    clear b3 t2
    go_wp2_with fail
    refine (implNeedlessCoins_any _ _ _ (o3.sp a3) hl).mono ?_
    rintro e w4 ⟨g4, rfl, o4, b4⟩
    have z3 := t3.size
    have p4 := ap_above o4 a3 lt3
    have p24 := ap_two o2 o4 (by omega)
    have o4 := o4.mono z3
    have q2 := q2.below b4 (Nat.le_refl _)
    have q3 := o3.below b4 (Nat.le_refl _)
    have t4 := nxt t3 b4
    clear o3 b4 t3 o2
    go_wp2_with fail
    refine (eqIntS_yes _ _ _ _ _ o4.sv q2.sv rfl hyl).mono ?_
    rintro e w5 ⟨rfl, b5⟩
    have o4 := o4.below b5 (Nat.le_refl _)
    have q2 := q2.below b5 (Nat.le_refl _)
    have q3 := q3.below b5 (Nat.le_refl _)
    have t5 := nxt t4 b5
    clear b5 t4
    go_wp2_with fail
    refine (toIntS_any _ _ _ (hs.below t5 (Nat.le_refl _)) hl).mono ?_
    rintro e w6 ⟨u6, rfl, o6, -, b6⟩
    have o4 := o4.below b6 (Nat.le_refl _)
    have q2 := q2.below b6 (Nat.le_refl _)
    have q3 := q3.below b6 (Nat.le_refl _)
    have t6 := nxt t5 b6
    clear b6 t5
    go_wp2_with fail
    refine (eqIntS_yes _ _ _ _ _ q3.sv o6.sv rfl hl).mono ?_
    rintro e w7 ⟨rfl, b7⟩
    have o4 := o4.below b7 (Nat.le_refl _)
    have q2 := q2.below b7 (Nat.le_refl _)
    have q3 := q3.below b7 (Nat.le_refl _)
    have t7 := nxt t6 b7
    have z7 := t7.size
    clear b7 t6 o6
    go_wp2_with fail
    refine (markIntS_any _ xs _ 1 _ q3 hl (by omega) (by omega)).mono ?_
    rintro e w8 ⟨rfl, -, g8⟩
    have o4 := o4.kept g8 p4
    have q2 := q2.kept g8 p2
    have t8 := t7.trans (q3.marked z2 (Nat.le_of_lt (own_lt q3 a3)) g8)
    have z8 := t8.size
    clear q3 g8 t7 a3
    go_wp2_with fail
    refine (eqIntS_yes _ _ _ _ _ o4.sv q2.sv rfl hyl).mono ?_
    rintro e w9 ⟨rfl, b9⟩
    have o4 := o4.below b9 (Nat.le_refl _)
    have q2 := q2.below b9 (Nat.le_refl _)
    have t9 := nxt t8 b9
    have z9 := t9.size
    clear b9 t8
    go_wp2_with fail
    refine (markIntS_any _ (neR xs ) _ 1 _ o4 hyl (by omega) (by omega)).mono ?_
    rintro e w10 ⟨rfl, o10, g10⟩
    have q2 := q2.kept g10 p24
    have t10 := t9.trans (o4.marked (Nat.le_refl _) z9 g10)
    clear o4 g10 t9
    go_wp2_with fail
    refine (heldIntS_any _ (neR xs ).length 1 _ o10.sv hyl (by omega) (by omega)).mono ?_
    rintro e w10' ⟨rfl, rfl⟩
    go_wp2_with fail
    refine (toIntS_any _ _ _ (hs.below t10 (Nat.le_refl _)) hl).mono ?_
    rintro e w11 ⟨u11, rfl, o11, a11, b11⟩
    have o10 := o10.below b11 (Nat.le_refl _)
    have q2 := q2.below b11 (Nat.le_refl _)
    have t11 := nxt t10 b11
    clear b11 t10
    go_wp2_with fail
    refine (implNeedlessCoins_any _ _ _ (o11.sp a11) hl).mono ?_
    rintro e w12 ⟨h12, rfl, o12, b12⟩
    have o10 := o10.below b12 (Nat.le_refl _)
    have q2 := q2.below b12 (Nat.le_refl _)
    have t12 := nxt t11 b12
    clear b12 t11 o11 a11
    go_wp2_with fail
    refine (eqIntS_yes _ _ _ _ _ o12.sv q2.sv rfl hyl).mono ?_
    rintro e w13 ⟨rfl, b13⟩
    have o10 := o10.below b13 (Nat.le_refl _)
    have t13 := nxt t12 b13
    clear b13 t12 o12 q2
    go_wp2_with fail
    refine (heldIntS_any _ (neR xs ).length 1 _ o10.sv hyl (by omega) (by omega)).mono ?_
    rintro e w13' ⟨rfl, rfl⟩
    go_wp2_with fail
    go_ret
    exact ⟨rfl, t13⟩

end Go.Proofs.Ytdgadabfahmdmaa
