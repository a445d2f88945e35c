/-
  The laws on SumOfPieces, RunOf and BestNext, walked: whatever slice comes in, each returns true and writes nothing that was there. No condition but a length that fits int.
-/
import Derived.Test.YtpijogajjinedaaNum
namespace Go.Proofs.Ytpijogajjinedaa
open Go.RowKit

theorem field_sum (n : Int) (w : World) : (Instr.field 39 (.agg #[.int .i64 n]) 0).run Try.prog w = .ok (.int .i64 n) w := by kernel_rfl

theorem ret_ib {k : IntKind} {a b : Int} {c d : Bool} (h : a = b) (g : c = d) : Ending.returned (.tuple #[.int k a, .bool c]) = .returned (.tuple #[.int k b, .bool d]) := by rw [h, g]

noncomputable def sumR (xs : List Int) : Int := if goodB xs = true then sumP xs else 0
theorem sumR_yes {xs : List Int} (h : goodB xs = true) : sumR xs = sumP xs := by simp [sumR, h]
theorem sumR_no {xs : List Int} (h : goodB xs = false) : sumR xs = 0 := by simp [sumR, h]

noncomputable def runR (xs : List Int) : Int := if goodB xs = true then runP xs else 0
theorem runR_yes {xs : List Int} (h : goodB xs = true) : runR xs = runP xs := by simp [runR, h]
theorem runR_no {xs : List Int} (h : goodB xs = false) : runR xs = 0 := by simp [runR, h]

set_option maxHeartbeats 1000000 in
theorem specSumOfPieces_any (v : Value) (xs : List Int) (w : World) (h : Sv w v xs) (hl : xs.length ≤ 1099511627776) :
    Calls Try.prog 23 #[v] w fun e w' => e = .returned (.tuple #[.int .i64 (sumR xs), .bool (goodB xs)]) ∧ Below w.heap.size w w' := by
  by_cases hg : Good xs
  · have hgb := goodB_yes hg
    have HR := Lib.hid (sumR_yes hgb)
    go_enter Try.func23, Try.ntmps23
    go_wp2_with fail
    refine (piGood_any _ _ _ h hl).mono ?_
    rintro e w1 ⟨rfl, b1⟩
    have h1 := h.below b1 (Nat.le_refl _)
    go_wp2_with fail
    refine (piSum_any _ _ _ h1 hg).mono ?_
    rintro e w1' ⟨rfl, rfl⟩
    go_wp2_with fail
    go_ret2
    exact ⟨ret_ib HR.out.symm hgb.symm, b1⟩
  · have hgb := goodB_no hg
    have HR := Lib.hid (sumR_no hgb)
    go_enter Try.func23, Try.ntmps23
    go_wp2_with fail
    refine (piGood_any _ _ _ h hl).mono ?_
    rintro e w1 ⟨rfl, b1⟩
    go_wp2_with fail
    go_ret2
    exact ⟨ret_ib HR.out.symm hgb.symm, b1⟩

set_option maxHeartbeats 1000000 in
theorem implSumOfPieces_any (v : Value) (xs : List Int) (w : World) (h : Sv w v xs) (hl : xs.length ≤ 1099511627776) :
    Calls Try.prog 24 #[v] w fun e w' => e = .returned (.tuple #[.int .i64 (sumR xs), .bool (goodB xs)]) ∧ Below w.heap.size w w' := by
  by_cases hg : Good xs
  · have hgb := goodB_yes hg
    have HR := Lib.hid (sumR_yes hgb)
    have hfld := field_sum
    go_enter Try.func24, Try.ntmps24
    go_wp2_with fail
    refine (arePieces_any _ _ _ h hl).mono ?_
    rintro e w1 ⟨rfl, b1⟩
    have h1 := h.below b1 (Nat.le_refl _)
    go_wp2_with fail
    refine (sumOfAll_any _ _ _ h1 hg).mono ?_
    rintro e w2 ⟨rfl, b2⟩
    go_wp2_with fail
    go_ret2
    exact ⟨ret_ib HR.out.symm hgb.symm, nxt b1 b2⟩
  · have hgb := goodB_no hg
    have HR := Lib.hid (sumR_no hgb)
    go_enter Try.func24, Try.ntmps24
    go_wp2_with fail
    refine (arePieces_any _ _ _ h hl).mono ?_
    rintro e w1 ⟨rfl, b1⟩
    go_wp2_with fail
    go_ret2
    exact ⟨ret_ib HR.out.symm hgb.symm, b1⟩

set_option maxHeartbeats 1000000 in
theorem specRunOf_any (v : Value) (xs : List Int) (w : World) (h : Sv w v xs) (hl : xs.length ≤ 1099511627776) :
    Calls Try.prog 39 #[v] w fun e w' => e = .returned (.tuple #[.int .i64 (runR xs), .bool (goodB xs)]) ∧ Below w.heap.size w w' := by
  by_cases hg : Good xs
  · have hgb := goodB_yes hg
    have HR := Lib.hid (runR_yes hgb)
    go_enter Try.func39, Try.ntmps39
    go_wp2_with fail
    refine (piGood_any _ _ _ h hl).mono ?_
    rintro e w1 ⟨rfl, b1⟩
    have h1 := h.below b1 (Nat.le_refl _)
    go_wp2_with fail
    refine (piRun_any _ _ _ h1 hg).mono ?_
    rintro e w1' ⟨rfl, rfl⟩
    go_wp2_with fail
    go_ret2
    exact ⟨ret_ib HR.out.symm hgb.symm, b1⟩
  · have hgb := goodB_no hg
    have HR := Lib.hid (runR_no hgb)
    go_enter Try.func39, Try.ntmps39
    go_wp2_with fail
    refine (piGood_any _ _ _ h hl).mono ?_
    rintro e w1 ⟨rfl, b1⟩
    go_wp2_with fail
    go_ret2
    exact ⟨ret_ib HR.out.symm hgb.symm, b1⟩

set_option maxHeartbeats 1000000 in
theorem implRunOf_any (v : Value) (xs : List Int) (w : World) (h : Sv w v xs) (hl : xs.length ≤ 1099511627776) :
    Calls Try.prog 40 #[v] w fun e w' => e = .returned (.tuple #[.int .i64 (runR xs), .bool (goodB xs)]) ∧ Below w.heap.size w w' := by
  by_cases hg : Good xs
  · have hgb := goodB_yes hg
    have HR := Lib.hid (runR_yes hgb)
    go_enter Try.func40, Try.ntmps40
    go_wp2_with fail
    refine (arePieces_any _ _ _ h hl).mono ?_
    rintro e w1 ⟨rfl, b1⟩
    have h1 := h.below b1 (Nat.le_refl _)
    go_wp2_with fail
    refine (runOf_any _ _ _ h1 hg).mono ?_
    rintro e w1' ⟨rfl, rfl⟩
    go_wp2_with fail
    go_ret2
    exact ⟨ret_ib HR.out.symm hgb.symm, b1⟩
  · have hgb := goodB_no hg
    have HR := Lib.hid (runR_no hgb)
    go_enter Try.func40, Try.ntmps40
    go_wp2_with fail
    refine (arePieces_any _ _ _ h hl).mono ?_
    rintro e w1 ⟨rfl, b1⟩
    go_wp2_with fail
    go_ret2
    exact ⟨ret_ib HR.out.symm hgb.symm, b1⟩

noncomputable def nextB (xs : List Int) : Bool := goodB xs && !decide (xs.length = 20)
noncomputable def nextR (xs : List Int) : Int := if nextB xs = true then min (runP xs + 1) 10000 else 0
theorem nextB_no {xs : List Int} (h : goodB xs = false) : nextB xs = false ∧ nextR xs = 0 := by
  have e : nextB xs = false := by simp [nextB, h]
  exact ⟨e, by simp [nextR, e]⟩
theorem nextB_full {xs : List Int} (h : xs.length = 20) : nextB xs = false ∧ nextR xs = 0 := by
  have e : nextB xs = false := by simp [nextB, h]
  exact ⟨e, by simp [nextR, e]⟩
theorem nextB_yes {xs : List Int} (hg : goodB xs = true) (h : xs.length ≠ 20) : nextB xs = true ∧ nextR xs = min (runP xs + 1) 10000 := by
  have e : nextB xs = true := by simp [nextB, h, hg]
  exact ⟨e, by simp [nextR, e]⟩

set_option maxHeartbeats 1000000 in
theorem specBestNext_any (v : Value) (xs : List Int) (w : World) (h : Sv w v xs) (hl : xs.length ≤ 1099511627776) :
    Calls Try.prog 49 #[v] w fun e w' => e = .returned (.tuple #[.int .i64 (nextR xs), .bool (nextB xs)]) ∧ Below w.heap.size w w' := by
  have hs := h
  obtain ⟨p, cap, rfl, hx⟩ := h
  clear hx
  by_cases hg : Good xs
  · have hgb := goodB_yes hg
    by_cases h20 : xs.length = 20
    · have HR := Lib.hid (nextB_full h20)
      have q20 : ((xs.length : Int) == 20) = true := by simp; omega
      have H20 := Lib.hid h20
      clear h20
      go_enter Try.func49, Try.ntmps49
      go_wp2_with fail
      refine (piGood_any _ _ _ hs hl).mono ?_
      rintro e w1 ⟨rfl, b1⟩
      go_wp2_with fail
      go_ret2
      exact ⟨ret_ib HR.out.2.symm HR.out.1.symm, b1⟩
    · have HR := Lib.hid (nextB_yes hgb h20)
      have q20 : ((xs.length : Int) == 20) = false := by simp; omega
      have hr := hg.run
      go_enter Try.func49, Try.ntmps49
      go_wp2_with fail
      refine (piGood_any _ _ _ hs hl).mono ?_
      rintro e w1 ⟨rfl, b1⟩
      have h1 := hs.below b1 (Nat.le_refl _)
      go_wp2_with fail
      refine (piRun_any _ _ _ h1 hg).mono ?_
      rintro e w1' ⟨rfl, rfl⟩
      go_wp2_with fail
      refine (least_any _ _ _).mono ?_
      rintro e w1' ⟨rfl, rfl⟩
      go_wp2_with fail
      go_ret2
      exact ⟨ret_ib HR.out.2.symm HR.out.1.symm, b1⟩
  · have hgb := goodB_no hg
    have HR := Lib.hid (nextB_no hgb)
    go_enter Try.func49, Try.ntmps49
    go_wp2_with fail
    refine (piGood_any _ _ _ hs hl).mono ?_
    rintro e w1 ⟨rfl, b1⟩
    go_wp2_with fail
    go_ret2
    exact ⟨ret_ib HR.out.2.symm HR.out.1.symm, b1⟩

set_option maxHeartbeats 1000000 in
theorem implBestNext_any (v : Value) (xs : List Int) (w : World) (h : Sv w v xs) (hl : xs.length ≤ 1099511627776) :
    Calls Try.prog 50 #[v] w fun e w' => e = .returned (.tuple #[.int .i64 (nextR xs), .bool (nextB xs)]) ∧ Below w.heap.size w w' := by
  have hs := h
  obtain ⟨p, cap, rfl, hx⟩ := h
  clear hx
  by_cases hg : Good xs
  · have hgb := goodB_yes hg
    by_cases h20 : xs.length = 20
    · have HR := Lib.hid (nextB_full h20)
      have q20 : ((xs.length : Int) == 20) = true := by simp; omega
      have H20 := Lib.hid h20
      clear h20
      go_enter Try.func50, Try.ntmps50
      go_wp2_with fail
      refine (arePieces_any _ _ _ hs hl).mono ?_
      rintro e w1 ⟨rfl, b1⟩
      go_wp2_with fail
      go_ret2
      exact ⟨ret_ib HR.out.2.symm HR.out.1.symm, b1⟩
    · have HR := Lib.hid (nextB_yes hgb h20)
      have q20 : ((xs.length : Int) == 20) = false := by simp; omega
      have hr := hg.run
      go_enter Try.func50, Try.ntmps50
      go_wp2_with fail
      refine (arePieces_any _ _ _ hs hl).mono ?_
      rintro e w1 ⟨rfl, b1⟩
      have h1 := hs.below b1 (Nat.le_refl _)
      go_wp2_with fail
      refine (runOf_any _ _ _ h1 hg).mono ?_
      rintro e w1' ⟨rfl, rfl⟩
      go_wp2_with fail
      all_goals
        go_ret2
        exact ⟨ret_ib (by rw [HR.out.2]; omega) HR.out.1.symm, b1⟩
  · have hgb := goodB_no hg
    have HR := Lib.hid (nextB_no hgb)
    go_enter Try.func50, Try.ntmps50
    go_wp2_with fail
    refine (arePieces_any _ _ _ hs hl).mono ?_
    rintro e w1 ⟨rfl, b1⟩
    go_wp2_with fail
    go_ret2
    exact ⟨ret_ib HR.out.2.symm HR.out.1.symm, b1⟩

set_option maxHeartbeats 2000000 in
theorem lawSumOfPieces (v : Value) (xs : List Int) (w : World) (h : Sv w v xs) (hm : xs.length ≤ 9223372036854775807) :
    Calls Try.prog 4 #[v] w fun e w' => e = .returned (.bool true) ∧ Below w.heap.size w w' := by
  have hs := h
  obtain ⟨p, cap, rfl, hx⟩ := h
  clear hx
  by_cases hbig : 1048576 < xs.length
  · go_enter Try.func4, Try.ntmps4
    go_wp2
    go_ret
    exact ⟨rfl, Below.refl _ _⟩
  · have hl : xs.length ≤ 1099511627776 := by omega
    go_enter Try.func4, Try.ntmps4
    go_wp2_with fail
    refine (toIntS_any _ _ _ hs hl).mono ?_
    rintro e w1 ⟨u1, rfl, o1, -, b1⟩
    go_wp2_with fail
    refine (specSumOfPieces_any _ _ _ o1.sv hl).mono ?_
    rintro e w2 ⟨rfl, b2⟩
    clear o1
    have b2 := nxt b1 b2
    clear b1
    go_wp2_with fail
    refine (toIntS_any _ _ _ (hs.below b2 (Nat.le_refl _)) hl).mono ?_
    rintro e w3 ⟨u3, rfl, o3, -, b3⟩
    have b3 := nxt b2 b3
    clear b2
    go_wp2_with fail
    refine (implSumOfPieces_any _ _ _ o3.sv hl).mono ?_
    rintro e w4 ⟨rfl, b4⟩
    have o4 := o3.below b4 (Nat.le_refl _)
    have b4 := nxt b3 b4
    clear o3 b3
    go_wp2_with fail
    refine (toIntS_any _ _ _ (hs.below b4 (Nat.le_refl _)) hl).mono ?_
    rintro e w5 ⟨u5, rfl, o5, -, b5⟩
    have o6 := o4.below b5 (Nat.le_refl _)
    have b5 := nxt b4 b5
    go_wp2_with fail
    refine (eqIntS_yes _ _ _ _ _ o6.sv o5.sv rfl hl).mono ?_
    rintro e w6 ⟨rfl, b6⟩
    have b6 := nxt b5 b6
    clear o4 o5 o6 b4 b5
    go_wp2_with fail
    go_ret
    exact ⟨rfl, b6⟩

set_option maxHeartbeats 2000000 in
theorem lawRunOf (v : Value) (xs : List Int) (w : World) (h : Sv w v xs) (hm : xs.length ≤ 9223372036854775807) :
    Calls Try.prog 11 #[v] w fun e w' => e = .returned (.bool true) ∧ Below w.heap.size w w' := by
  have hs := h
  obtain ⟨p, cap, rfl, hx⟩ := h
  clear hx
  by_cases hbig : 1048576 < xs.length
  · go_enter Try.func11, Try.ntmps11
    go_wp2
    go_ret
    exact ⟨rfl, Below.refl _ _⟩
  · have hl : xs.length ≤ 1099511627776 := by omega
    go_enter Try.func11, Try.ntmps11
    go_wp2_with fail
    refine (toIntS_any _ _ _ hs hl).mono ?_
    rintro e w1 ⟨u1, rfl, o1, -, b1⟩
    go_wp2_with fail
    refine (specRunOf_any _ _ _ o1.sv hl).mono ?_
    rintro e w2 ⟨rfl, b2⟩
    clear o1
    have b2 := nxt b1 b2
    clear b1
    go_wp2_with fail
    refine (toIntS_any _ _ _ (hs.below b2 (Nat.le_refl _)) hl).mono ?_
    rintro e w3 ⟨u3, rfl, o3, -, b3⟩
    have b3 := nxt b2 b3
    clear b2
    go_wp2_with fail
    refine (implRunOf_any _ _ _ o3.sv hl).mono ?_
    rintro e w4 ⟨rfl, b4⟩
    have o4 := o3.below b4 (Nat.le_refl _)
    have b4 := nxt b3 b4
    clear o3 b3
    go_wp2_with fail
    refine (toIntS_any _ _ _ (hs.below b4 (Nat.le_refl _)) hl).mono ?_
    rintro e w5 ⟨u5, rfl, o5, -, b5⟩
    have o6 := o4.below b5 (Nat.le_refl _)
    have b5 := nxt b4 b5
    go_wp2_with fail
    refine (eqIntS_yes _ _ _ _ _ o6.sv o5.sv rfl hl).mono ?_
    rintro e w6 ⟨rfl, b6⟩
    have b6 := nxt b5 b6
    clear o4 o5 o6 b4 b5
    go_wp2_with fail
    go_ret
    exact ⟨rfl, b6⟩

set_option maxHeartbeats 2000000 in
theorem lawBestNext (v : Value) (xs : List Int) (w : World) (h : Sv w v xs) (hm : xs.length ≤ 9223372036854775807) :
    Calls Try.prog 16 #[v] w fun e w' => e = .returned (.bool true) ∧ Below w.heap.size w w' := by
  have hs := h
  obtain ⟨p, cap, rfl, hx⟩ := h
  clear hx
  by_cases hbig : 1048576 < xs.length
  · go_enter Try.func16, Try.ntmps16
    go_wp2
    go_ret
    exact ⟨rfl, Below.refl _ _⟩
  · have hl : xs.length ≤ 1099511627776 := by omega
    go_enter Try.func16, Try.ntmps16
    go_wp2_with fail
    refine (toIntS_any _ _ _ hs hl).mono ?_
    rintro e w1 ⟨u1, rfl, o1, -, b1⟩
    go_wp2_with fail
    refine (specBestNext_any _ _ _ o1.sv hl).mono ?_
    rintro e w2 ⟨rfl, b2⟩
    clear o1
    have b2 := nxt b1 b2
    clear b1
    go_wp2_with fail
    refine (toIntS_any _ _ _ (hs.below b2 (Nat.le_refl _)) hl).mono ?_
    rintro e w3 ⟨u3, rfl, o3, -, b3⟩
    have b3 := nxt b2 b3
    clear b2
    go_wp2_with fail
    refine (implBestNext_any _ _ _ o3.sv hl).mono ?_
    rintro e w4 ⟨rfl, b4⟩
    have o4 := o3.below b4 (Nat.le_refl _)
    have b4 := nxt b3 b4
    clear o3 b3
    go_wp2_with fail
    refine (toIntS_any _ _ _ (hs.below b4 (Nat.le_refl _)) hl).mono ?_
    rintro e w5 ⟨u5, rfl, o5, -, b5⟩
    have o6 := o4.below b5 (Nat.le_refl _)
    have b5 := nxt b4 b5
    go_wp2_with fail
    refine (eqIntS_yes _ _ _ _ _ o6.sv o5.sv rfl hl).mono ?_
    rintro e w6 ⟨rfl, b6⟩
    have b6 := nxt b5 b6
    clear o4 o5 o6 b4 b5
    go_wp2_with fail
    go_ret
    exact ⟨rfl, b6⟩

end Go.Proofs.Ytpijogajjinedaa
