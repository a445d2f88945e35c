/-
  The law on DoCutsPay, walked: whatever number and slice come in, it returns true and writes nothing that was there. No condition but a length that fits int.
-/
import Derived.Test.YtkadmopnfmbedaaColl
import Derived.Test.YtkadmopnfmbedaaSort
import Derived.Test.YtkadmopnfmbedaaCfew
namespace Go.Proofs.Ytkadmopnfmbedaa
open Go.RowKit Go.Maps Go.WideMaps

theorem ret_bb {a b c d : Bool} (h : a = b) (g : c = d) : Ending.returned (.tuple #[.bool a, .bool c]) = .returned (.tuple #[.bool b, .bool d]) := by rw [h, g]
theorem CutsOk.pcs_sum {m : Int} {xs : List Int} (h : CutsOk m xs) : sumP (pcsP m xs) = m := by
  unfold sumP pcsP
  rw [sumFrom_sumL, sumL_perm (sortL_perm _), h.parts_sum]; omega
theorem pay_count {D : DataW Unit} {ys : List Int} {m : Int} (hset : SetIs D (mk ys ys.length)) (he : ∃ es, D = .map es ∧ es.Pairwise (fun p q => p.1 ≠ q.1) ∧ ∀ p ∈ es, Go.WideAt.IsKeyLit p.1) (hg : Good ys) (hm : sumP ys = m) :
    ((Maps.size D : Int) == m + 1) = decide (runP ys = m) := by
  obtain ⟨L, h1, h2, h3⟩ := hset.list he
  have hs := hg.sum
  have hc := count_all (D := L) (t := m) h1 (fun s hs => by rw [← hm]; exact mk_sum hg s ((h3 s).1 hs).2) (by omega)
  have hr := run_all hg
  rw [hm] at hr
  rw [Bool.eq_iff_iff, beq_iff_eq, decide_eq_true_eq, ← h2, hc, hr]
  constructor
  · intro h s a b; exact ((h3 s).1 (h s a b)).2
  · intro h s a b; exact (h3 s).2 ⟨by unfold inS; omega, h s a b⟩

set_option maxHeartbeats 4000000 in
theorem chPay_any (m : Int) (v : Value) (xs : List Int) (w : World) (h : Sv w v xs) (hc : CutsOk m xs) :
    Calls Try.prog 33 #[.int .i64 m, v] w fun e w' => e = .returned (.bool (payB m xs)) ∧ Below w.heap.size w w' := by
  have hg := hc.good
  go_enter Try.func33, Try.ntmps33
  go_wp2_with fail
  refine (chPieces_any _ _ _ _ h hc).mono ?_
  rintro e w1 ⟨u1, rfl, o1, b1⟩
  go_wp2_with fail
  refine (piRun_any _ _ _ o1.sv hg).mono ?_
  rintro e w2 ⟨rfl, rfl⟩
  go_wp2_with fail
  go_ret
  exact ⟨ret_bool (by unfold payB; rfl), b1⟩

set_option maxHeartbeats 4000000 in
theorem doPay_any (m : Int) (v : Value) (xs : List Int) (w : World) (h : Sv w v xs) (hc : CutsOk m xs) :
    Calls Try.prog 34 #[.int .i64 m, v] w fun e w' => e = .returned (.bool (payB m xs)) ∧ Below w.heap.size w w' := by
  have PF := Lib.hid (rawP_filter m xs)
  have PL := Lib.hid (rawP_len (m := m) hc.2.1)
  have PN := Lib.hid (show (rawP m xs).filter posB ≠ [] by rw [rawP_filter]; exact hc.parts_ne)
  have hg := hc.good
  have hmb := hc.1
  have HSM := Lib.hid hc.pcs_sum
  have HG := Lib.hid hg
  go_enter Try.func34, Try.ntmps34
  go_wp2_with fail
  refine (partsOf_any _ _ _ _ h hc).mono ?_
  rintro e w1 ⟨rfl, b1⟩
  have z1 := b1.size
  go_wp2_with fail
  refine (pieces_any _ _ _ rfl PL.out PN.out).mono ?_
  rintro e w2 ⟨u2, rfl, o2, b2⟩
  rw [PF.out] at o2
  have b2 := nxt b1 b2
  have z2 := b2.size
  clear b1
  go_wp2_with fail
  refine (collectSums_any _ _ _ o2.sv hg).mono ?_
  rintro e w3 ⟨rfl, ⟨D, hown, hset⟩, b3⟩
  have b3 := nxt b2 b3
  clear b2 o2
  have HC := Lib.hid (pay_count hset (hown.entries KK) HG.out HSM.out)
  clear hset hg
  go_wp2_with (at_len; refine wpList_len_own _ rfl _ 62 rfl 72 4 Try.underlying62 _ w2.heap.size _ D rfl hown ?_)
  go_ret
  exact ⟨ret_bool (by rw [HC.out]; rfl), b3⟩

noncomputable def dpB (xs : List Int) (m : Int) : Bool := if cutsB m xs = true then payB m xs else false
theorem dpB_yes {xs : List Int} {m : Int} (h : cutsB m xs = true) : dpB xs m = payB m xs := by simp [dpB, h]
theorem dpB_no {xs : List Int} {m : Int} (h : cutsB m xs = false) : dpB xs m = false := by simp [dpB, h]

set_option maxHeartbeats 4000000 in
theorem specDoCutsPay_any (v : Value) (xs : List Int) (m : Int) (w : World) (h : Sv w v xs) (hl : xs.length ≤ 1099511627776) :
    Calls Try.prog 15 #[.int .i64 m, v] w fun e w' => e = .returned (.tuple #[.bool (dpB xs m), .bool (cutsB m xs)]) ∧ Below w.heap.size w w' := by
  by_cases hg : cutsB m xs = true
  · have HR := Lib.hid (dpB_yes hg)
    have HG := Lib.hid hg
    have hc := cutsB_iff.1 hg
    go_enter Try.func15, Try.ntmps15
    go_wp2_with fail
    refine (chCuts_any _ _ _ _ h hl).mono ?_
    rintro e w1 ⟨rfl, b1⟩
    have h1 := h.below b1 (Nat.le_refl _)
    go_wp2_with fail
    refine (chPay_any _ _ _ _ h1 hc).mono ?_
    rintro e w2 ⟨rfl, b2⟩
    have b2 := nxt b1 b2
    clear b1 h1
    go_wp2_with fail
    go_ret2
    exact ⟨ret_bb HR.out.symm HG.out.symm, b2⟩
  · have hg : cutsB m xs = false := by simpa using hg
    have HR := Lib.hid (dpB_no hg)
    have HG := Lib.hid hg
    go_enter Try.func15, Try.ntmps15
    go_wp2_with fail
    refine (chCuts_any _ _ _ _ h hl).mono ?_
    rintro e w1 ⟨rfl, b1⟩
    go_wp2_with fail
    go_ret2
    exact ⟨ret_bb HR.out.symm HG.out.symm, b1⟩

set_option maxHeartbeats 4000000 in
theorem implDoCutsPay_any (v : Value) (xs : List Int) (m : Int) (w : World) (h : Sv w v xs) (hl : xs.length ≤ 1099511627776) :
    Calls Try.prog 16 #[.int .i64 m, v] w fun e w' => e = .returned (.tuple #[.bool (dpB xs m), .bool (cutsB m xs)]) ∧ Below w.heap.size w w' := by
  by_cases hg : cutsB m xs = true
  · have HR := Lib.hid (dpB_yes hg)
    have HG := Lib.hid hg
    have hc := cutsB_iff.1 hg
    go_enter Try.func16, Try.ntmps16
    go_wp2_with fail
    refine (implAreCuts_any _ _ _ _ h hl).mono ?_
    rintro e w1 ⟨rfl, b1⟩
    have h1 := h.below b1 (Nat.le_refl _)
    go_wp2_with fail
    refine (doPay_any _ _ _ _ h1 hc).mono ?_
    rintro e w2 ⟨rfl, b2⟩
    have b2 := nxt b1 b2
    clear b1 h1
    go_wp2_with fail
    go_ret2
    exact ⟨ret_bb HR.out.symm HG.out.symm, b2⟩
  · have hg : cutsB m xs = false := by simpa using hg
    have HR := Lib.hid (dpB_no hg)
    have HG := Lib.hid hg
    go_enter Try.func16, Try.ntmps16
    go_wp2_with fail
    refine (implAreCuts_any _ _ _ _ h hl).mono ?_
    rintro e w1 ⟨rfl, b1⟩
    go_wp2_with fail
    go_ret2
    exact ⟨ret_bb HR.out.symm HG.out.symm, b1⟩

set_option maxHeartbeats 2000000 in
theorem lawDoCutsPay (v : Value) (xs : List Int) (a1 : Int) (w : World) (h : Sv w v xs) (hm : xs.length ≤ 9223372036854775807) :
    Calls Try.prog 4 #[.int .i64 a1, v] w fun e w' => e = .returned (.bool true) ∧ Below w.heap.size w w' := by
  have hs := h
  obtain ⟨p, cap, rfl, hx⟩ := h
  clear hx
  by_cases hbig : 1048576 < xs.length
  · go_enter Try.func4, Try.ntmps4
    go_wp2
    go_ret
    exact ⟨rfl, Below.refl _ _⟩
  · have hl : xs.length ≤ 1099511627776 := by omega
    go_enter Try.func4, Try.ntmps4
    go_wp2_with fail
    refine (toIntS_any _ _ _ hs hl).mono ?_
    rintro e w1 ⟨u1, rfl, o1, oa1, b1⟩
    go_wp2_with fail
    refine (specDoCutsPay_any _ _ _ _ (o1.sp oa1).sv hl).mono ?_
    rintro e w2 ⟨rfl, b2⟩
    clear o1 oa1
    have b2 := nxt b1 b2
    clear b1
    go_wp2_with fail
    refine (toIntS_any _ _ _ (hs.below b2 (Nat.le_refl _)) hl).mono ?_
    rintro e w3 ⟨u3, rfl, o3, oa3, b3⟩
    have b3 := nxt b2 b3
    clear b2
    go_wp2_with fail
    refine (implDoCutsPay_any _ _ _ _ (o3.sp oa3).sv hl).mono ?_
    rintro e w4 ⟨rfl, b4⟩
    have o4 := o3.below b4 (Nat.le_refl _)
    have b4 := nxt b3 b4
    clear o3 b3 oa3
    go_wp2_with fail
    refine (toIntS_any _ _ _ (hs.below b4 (Nat.le_refl _)) hl).mono ?_
    rintro e w5 ⟨u5, rfl, o5, -, b5⟩
    have o6 := o4.below b5 (Nat.le_refl _)
    have b5 := nxt b4 b5
    go_wp2_with fail
    refine (eqIntS_yes _ _ _ _ _ o6.sv o5.sv rfl hl).mono ?_
    rintro e w6 ⟨rfl, b6⟩
    have b6 := nxt b5 b6
    clear o4 o5 o6 b4 b5
    go_wp2_with fail
    go_ret
    exact ⟨rfl, b6⟩
end Go.Proofs.Ytkadmopnfmbedaa
