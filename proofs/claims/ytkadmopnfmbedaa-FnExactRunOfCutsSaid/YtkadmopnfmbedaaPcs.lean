/-
  The laws on PiecesOfCuts and RunOfCuts, walked: whatever number and slice come in, each returns true and writes nothing that was there. No condition but a length that fits int.
-/
import Derived.Test.YtkadmopnfmbedaaSort
namespace Go.Proofs.Ytkadmopnfmbedaa
open Go.RowKit
theorem ret_ib {k : IntKind} {a b : Int} {c d : Bool} (h : a = b) (g : c = d) : Ending.returned (.tuple #[.int k a, .bool c]) = .returned (.tuple #[.int k b, .bool d]) := by rw [h, g]
noncomputable def pcsR (xs : List Int) (m : Int) : List Int := if cutsB m xs = true then pcsP m xs else []
theorem pcsR_yes {xs : List Int} {m : Int} (h : cutsB m xs = true) : pcsR xs m = pcsP m xs := by simp [pcsR, h]
theorem pcsR_no {xs : List Int} {m : Int} (h : cutsB m xs = false) : pcsR xs m = [] := by simp [pcsR, h]
theorem pcsR_len (xs : List Int) (m : Int) : (pcsR xs m).length ≤ 1099511627776 := by
  unfold pcsR
  by_cases h : cutsB m xs = true
  · rw [if_pos h]; have := (cutsB_iff.1 h).good.len; omega
  · rw [if_neg h]; simp
noncomputable def runR (xs : List Int) (m : Int) : Int := if cutsB m xs = true then runP (pcsP m xs) else 0
theorem runR_yes {xs : List Int} {m : Int} (h : cutsB m xs = true) : runR xs m = runP (pcsP m xs) := by simp [runR, h]
theorem runR_no {xs : List Int} {m : Int} (h : cutsB m xs = false) : runR xs m = 0 := by simp [runR, h]

set_option maxHeartbeats 4000000 in
theorem specPiecesOfCuts_any (v : Value) (xs : List Int) (m : Int) (w : World) (h : Sp w v xs) (hl : xs.length ≤ 1099511627776) :
    Calls Try.prog 9 #[.int .i64 m, v] w fun e w' => ∃ u, e = .returned (.tuple #[u, .bool (cutsB m xs)]) ∧ Ow w' w.heap.size u (pcsR xs m) ∧ Below w.heap.size w w' := by
  by_cases hg : cutsB m xs = true
  · have HR := Lib.hid (pcsR_yes hg)
    have HG := Lib.hid hg
    have hc := cutsB_iff.1 hg
    go_enter Try.func9, Try.ntmps9
    go_wp2_with fail
    refine (chCuts_any _ _ _ _ h.sv hl).mono ?_
    rintro e w1 ⟨rfl, b1⟩
    have h1 := h.below b1 (Nat.le_refl _)
    have z1 := b1.size
    go_wp2_with fail
    refine (chPieces_any _ _ _ _ h1.sv hc).mono ?_
    rintro e w2 ⟨u2, rfl, o2, b2⟩
    have b3 := nxt b1 b2
    clear b1 b2 h1
    go_wp2_with fail
    go_ret2
    exact ⟨_, ret_lb rfl HG.out.symm, by rw [HR.out]; exact o2.mono z1, b3⟩
  · have hg : cutsB m xs = false := by simpa using hg
    have HR := Lib.hid (pcsR_no hg)
    have HG := Lib.hid hg
    go_enter Try.func9, Try.ntmps9
    go_wp2_with fail
    refine (chCuts_any _ _ _ _ h.sv hl).mono ?_
    rintro e w1 ⟨rfl, b1⟩
    go_wp2_with fail
    go_ret2
    exact ⟨_, ret_lb rfl HG.out.symm, by rw [HR.out]; exact ow_nil _ _, b1⟩

set_option maxHeartbeats 4000000 in
theorem implPiecesOfCuts_any (v : Value) (xs : List Int) (m : Int) (w : World) (h : Sp w v xs) (hl : xs.length ≤ 1099511627776) :
    Calls Try.prog 11 #[.int .i64 m, v] w fun e w' => ∃ u, e = .returned (.tuple #[u, .bool (cutsB m xs)]) ∧ Ow w' w.heap.size u (pcsR xs m) ∧ Below w.heap.size w w' := by
  by_cases hg : cutsB m xs = true
  · have HR := Lib.hid (pcsR_yes hg)
    have HG := Lib.hid hg
    have hc := cutsB_iff.1 hg
    have PF := Lib.hid (rawP_filter m xs)
    have PL := Lib.hid (rawP_len (m := m) hc.2.1)
    have PN := Lib.hid (show (rawP m xs).filter posB ≠ [] by rw [rawP_filter]; exact hc.parts_ne)
    go_enter Try.func11, Try.ntmps11
    go_wp2_with fail
    refine (implAreCuts_any _ _ _ _ h.sv hl).mono ?_
    rintro e w1 ⟨rfl, b1⟩
    have h1 := h.below b1 (Nat.le_refl _)
    have z1 := b1.size
    go_wp2_with fail
    refine (partsOf_any _ _ _ _ h1.sv hc).mono ?_
    rintro e w2 ⟨rfl, b2⟩
    have b2 := nxt b1 b2
    have z1 := b2.size
    clear b1 h1
    go_wp2_with fail
    refine (pieces_any _ _ _ rfl PL.out PN.out).mono ?_
    rintro e w3 ⟨u3, rfl, o2, b3⟩
    rw [PF.out] at o2
    have b3 := nxt b2 b3
    clear b2
    go_wp2_with fail
    go_ret2
    exact ⟨_, ret_lb rfl HG.out.symm, by rw [HR.out]; exact o2.mono z1, b3⟩
  · have hg : cutsB m xs = false := by simpa using hg
    have HR := Lib.hid (pcsR_no hg)
    have HG := Lib.hid hg
    go_enter Try.func11, Try.ntmps11
    go_wp2_with fail
    refine (implAreCuts_any _ _ _ _ h.sv hl).mono ?_
    rintro e w1 ⟨rfl, b1⟩
    go_wp2_with fail
    go_ret2
    exact ⟨_, ret_lb rfl HG.out.symm, by rw [HR.out]; exact ow_nil _ _, b1⟩

set_option maxHeartbeats 4000000 in
theorem specRunOfCuts_any (v : Value) (xs : List Int) (m : Int) (w : World) (h : Sv w v xs) (hl : xs.length ≤ 1099511627776) :
    Calls Try.prog 17 #[.int .i64 m, v] w fun e w' => e = .returned (.tuple #[.int .i64 (runR xs m), .bool (cutsB m xs)]) ∧ Below w.heap.size w w' := by
  by_cases hg : cutsB m xs = true
  · have HR := Lib.hid (runR_yes hg)
    have HG := Lib.hid hg
    have hc := cutsB_iff.1 hg
    go_enter Try.func17, Try.ntmps17
    go_wp2_with fail
    refine (chCuts_any _ _ _ _ h hl).mono ?_
    rintro e w1 ⟨rfl, b1⟩
    have h1 := h.below b1 (Nat.le_refl _)
    have z1 := b1.size
    go_wp2_with fail
    refine (chPieces_any _ _ _ _ h1 hc).mono ?_
    rintro e w2 ⟨u2, rfl, o2, b2⟩
    have b3 := nxt b1 b2
    clear b1 b2 h1
    go_wp2_with fail
    refine (piRun_any _ _ _ o2.sv hc.good).mono ?_
    rintro e w4 ⟨rfl, rfl⟩
    go_wp2_with fail
    go_ret2
    exact ⟨ret_ib HR.out.symm HG.out.symm, b3⟩
  · have hg : cutsB m xs = false := by simpa using hg
    have HR := Lib.hid (runR_no hg)
    have HG := Lib.hid hg
    go_enter Try.func17, Try.ntmps17
    go_wp2_with fail
    refine (chCuts_any _ _ _ _ h hl).mono ?_
    rintro e w1 ⟨rfl, b1⟩
    go_wp2_with fail
    go_ret2
    exact ⟨ret_ib HR.out.symm HG.out.symm, b1⟩

set_option maxHeartbeats 4000000 in
theorem implRunOfCuts_any (v : Value) (xs : List Int) (m : Int) (w : World) (h : Sv w v xs) (hl : xs.length ≤ 1099511627776) :
    Calls Try.prog 18 #[.int .i64 m, v] w fun e w' => e = .returned (.tuple #[.int .i64 (runR xs m), .bool (cutsB m xs)]) ∧ Below w.heap.size w w' := by
  by_cases hg : cutsB m xs = true
  · have HR := Lib.hid (runR_yes hg)
    have HG := Lib.hid hg
    have hc := cutsB_iff.1 hg
    have PF := Lib.hid (rawP_filter m xs)
    have PL := Lib.hid (rawP_len (m := m) hc.2.1)
    have PN := Lib.hid (show (rawP m xs).filter posB ≠ [] by rw [rawP_filter]; exact hc.parts_ne)
    go_enter Try.func18, Try.ntmps18
    go_wp2_with fail
    refine (implAreCuts_any _ _ _ _ h hl).mono ?_
    rintro e w1 ⟨rfl, b1⟩
    have h1 := h.below b1 (Nat.le_refl _)
    have z1 := b1.size
    go_wp2_with fail
    refine (partsOf_any _ _ _ _ h1 hc).mono ?_
    rintro e w2 ⟨rfl, b2⟩
    have b2 := nxt b1 b2
    have z1 := b2.size
    clear b1 h1
    go_wp2_with fail
    refine (pieces_any _ _ _ rfl PL.out PN.out).mono ?_
    rintro e w3 ⟨u3, rfl, o2, b3⟩
    rw [PF.out] at o2
    have b3 := nxt b2 b3
    clear b2
    go_wp2_with fail
    refine (runOf_any _ _ _ o2.sv hc.good).mono ?_
    rintro e w4 ⟨rfl, rfl⟩
    go_wp2_with fail
    go_ret2
    exact ⟨ret_ib HR.out.symm HG.out.symm, b3⟩
  · have hg : cutsB m xs = false := by simpa using hg
    have HR := Lib.hid (runR_no hg)
    have HG := Lib.hid hg
    go_enter Try.func18, Try.ntmps18
    go_wp2_with fail
    refine (implAreCuts_any _ _ _ _ h hl).mono ?_
    rintro e w1 ⟨rfl, b1⟩
    go_wp2_with fail
    go_ret2
    exact ⟨ret_ib HR.out.symm HG.out.symm, b1⟩

set_option maxHeartbeats 4000000 in
theorem lawPiecesOfCuts (v : Value) (xs : List Int) (a1 : Int) (w : World) (h : Sv w v xs) (hm : xs.length ≤ 9223372036854775807) :
    Calls Try.prog 3 #[.int .i64 a1, v] w fun e w' => e = .returned (.bool true) ∧ Below w.heap.size w w' := by
  have hs := h
  obtain ⟨p, cap, rfl, hx⟩ := h
  clear hx
  by_cases hbig : 1048576 < xs.length
  · go_enter Try.func3, Try.ntmps3
    go_wp2
    go_ret
    exact ⟨rfl, Below.refl _ _⟩
  · have hl : xs.length ≤ 1099511627776 := by omega
    have hyl : (pcsR xs a1).length ≤ 1099511627776 := pcsR_len _ _
    go_enter Try.func3, Try.ntmps3
    go_wp2_with fail
    refine (toIntS_any _ _ _ hs hl).mono ?_
    rintro e w1 ⟨u1, rfl, o1, a1', b1⟩
    go_wp2_with fail
    refine (specPiecesOfCuts_any _ _ _ _ (o1.sp a1') hl).mono ?_
    rintro e w2 ⟨v2, rfl, o2, b2⟩
    have z1 := b1.size
    have o2 := o2.mono z1
    have t2 := nxt b1 b2
    clear o1 b1 b2 a1'
    go_wp2_with fail
    refine (toIntS_any _ _ _ (hs.below t2 (Nat.le_refl _)) hl).mono ?_
    rintro e w3 ⟨u3, rfl, o3, a3, b3⟩
    have z2 := t2.size
    have p2 := ap_below o2 a3 (Nat.le_refl _)
    have lt3 := own_lt o3 a3
    have q2 := o2.below b3 (Nat.le_refl _)
    have t3 := nxt t2 b3
    clear b3 t2
    go_wp2_with fail
    refine (implPiecesOfCuts_any _ _ _ _ (o3.sp a3) hl).mono ?_
    rintro e w4 ⟨g4, rfl, o4, b4⟩
    have z3 := t3.size
    have p4 := ap_above o4 a3 lt3
    have p24 := ap_two o2 o4 (by omega)
    have o4 := o4.mono z3
    have q2 := q2.below b4 (Nat.le_refl _)
    have q3 := o3.below b4 (Nat.le_refl _)
    have t4 := nxt t3 b4
    clear o3 b4 t3 o2
    go_wp2_with fail
    refine (eqIntS_yes _ _ _ _ _ o4.sv q2.sv rfl hyl).mono ?_
    rintro e w5 ⟨rfl, b5⟩
    have o4 := o4.below b5 (Nat.le_refl _)
    have q2 := q2.below b5 (Nat.le_refl _)
    have q3 := q3.below b5 (Nat.le_refl _)
    have t5 := nxt t4 b5
    clear b5 t4
    go_wp2_with fail
    refine (toIntS_any _ _ _ (hs.below t5 (Nat.le_refl _)) hl).mono ?_
    rintro e w6 ⟨u6, rfl, o6, -, b6⟩
    have o4 := o4.below b6 (Nat.le_refl _)
    have q2 := q2.below b6 (Nat.le_refl _)
    have q3 := q3.below b6 (Nat.le_refl _)
    have t6 := nxt t5 b6
    clear b6 t5
    go_wp2_with fail
    refine (eqIntS_yes _ _ _ _ _ q3.sv o6.sv rfl hl).mono ?_
    rintro e w7 ⟨rfl, b7⟩
    have o4 := o4.below b7 (Nat.le_refl _)
    have q2 := q2.below b7 (Nat.le_refl _)
    have q3 := q3.below b7 (Nat.le_refl _)
    have t7 := nxt t6 b7
    have z7 := t7.size
    clear b7 t6 o6
    go_wp2_with fail
    refine (markIntS_any _ xs _ 1 _ q3 hl (by omega) (by omega)).mono ?_
    rintro e w8 ⟨rfl, -, g8⟩
    have o4 := o4.kept g8 p4
    have q2 := q2.kept g8 p2
    have t8 := t7.trans (q3.marked z2 (Nat.le_of_lt (own_lt q3 a3)) g8)
    have z8 := t8.size
    clear q3 g8 t7 a3
    go_wp2_with fail
    refine (eqIntS_yes _ _ _ _ _ o4.sv q2.sv rfl hyl).mono ?_
    rintro e w9 ⟨rfl, b9⟩
    have o4 := o4.below b9 (Nat.le_refl _)
    have q2 := q2.below b9 (Nat.le_refl _)
    have t9 := nxt t8 b9
    have z9 := t9.size
    clear b9 t8
    go_wp2_with fail
    refine (markIntS_any _ (pcsR xs a1) _ 1 _ o4 hyl (by omega) (by omega)).mono ?_
    rintro e w10 ⟨rfl, o10, g10⟩
    have q2 := q2.kept g10 p24
    have t10 := t9.trans (o4.marked (Nat.le_refl _) z9 g10)
    clear o4 g10 t9
    go_wp2_with fail
    refine (heldIntS_any _ (pcsR xs a1).length 1 _ o10.sv hyl (by omega) (by omega)).mono ?_
    rintro e w10' ⟨rfl, rfl⟩
    go_wp2_with fail
    refine (toIntS_any _ _ _ (hs.below t10 (Nat.le_refl _)) hl).mono ?_
    rintro e w11 ⟨u11, rfl, o11, a11, b11⟩
    have o10 := o10.below b11 (Nat.le_refl _)
    have q2 := q2.below b11 (Nat.le_refl _)
    have t11 := nxt t10 b11
    clear b11 t10
    go_wp2_with fail
    refine (implPiecesOfCuts_any _ _ _ _ (o11.sp a11) hl).mono ?_
    rintro e w12 ⟨h12, rfl, o12, b12⟩
    have o10 := o10.below b12 (Nat.le_refl _)
    have q2 := q2.below b12 (Nat.le_refl _)
    have t12 := nxt t11 b12
    clear b12 t11 o11 a11
    go_wp2_with fail
    refine (eqIntS_yes _ _ _ _ _ o12.sv q2.sv rfl hyl).mono ?_
    rintro e w13 ⟨rfl, b13⟩
    have o10 := o10.below b13 (Nat.le_refl _)
    have t13 := nxt t12 b13
    clear b13 t12 o12 q2
    go_wp2_with fail
    refine (heldIntS_any _ (pcsR xs a1).length 1 _ o10.sv hyl (by omega) (by omega)).mono ?_
    rintro e w13' ⟨rfl, rfl⟩
    go_wp2_with fail
    go_ret
    exact ⟨rfl, t13⟩

set_option maxHeartbeats 2000000 in
theorem lawRunOfCuts (v : Value) (xs : List Int) (a1 : Int) (w : World) (h : Sv w v xs) (hm : xs.length ≤ 9223372036854775807) :
    Calls Try.prog 5 #[.int .i64 a1, v] w fun e w' => e = .returned (.bool true) ∧ Below w.heap.size w w' := by
  have hs := h
  obtain ⟨p, cap, rfl, hx⟩ := h
  clear hx
  by_cases hbig : 1048576 < xs.length
  · go_enter Try.func5, Try.ntmps5
    go_wp2
    go_ret
    exact ⟨rfl, Below.refl _ _⟩
  · have hl : xs.length ≤ 1099511627776 := by omega
    go_enter Try.func5, Try.ntmps5
    go_wp2_with fail
    refine (toIntS_any _ _ _ hs hl).mono ?_
    rintro e w1 ⟨u1, rfl, o1, oa1, b1⟩
    go_wp2_with fail
    refine (specRunOfCuts_any _ _ _ _ (o1.sp oa1).sv hl).mono ?_
    rintro e w2 ⟨rfl, b2⟩
    clear o1 oa1
    have b2 := nxt b1 b2
    clear b1
    go_wp2_with fail
    refine (toIntS_any _ _ _ (hs.below b2 (Nat.le_refl _)) hl).mono ?_
    rintro e w3 ⟨u3, rfl, o3, oa3, b3⟩
    have b3 := nxt b2 b3
    clear b2
    go_wp2_with fail
    refine (implRunOfCuts_any _ _ _ _ (o3.sp oa3).sv hl).mono ?_
    rintro e w4 ⟨rfl, b4⟩
    have o4 := o3.below b4 (Nat.le_refl _)
    have b4 := nxt b3 b4
    clear o3 b3 oa3
    go_wp2_with fail
    refine (toIntS_any _ _ _ (hs.below b4 (Nat.le_refl _)) hl).mono ?_
    rintro e w5 ⟨u5, rfl, o5, -, b5⟩
    have o6 := o4.below b5 (Nat.le_refl _)
    have b5 := nxt b4 b5
    go_wp2_with fail
    refine (eqIntS_yes _ _ _ _ _ o6.sv o5.sv rfl hl).mono ?_
    rintro e w6 ⟨rfl, b6⟩
    have b6 := nxt b5 b6
    clear o4 o5 o6 b4 b5
    go_wp2_with fail
    go_ret
    exact ⟨rfl, b6⟩

end Go.Proofs.Ytkadmopnfmbedaa
