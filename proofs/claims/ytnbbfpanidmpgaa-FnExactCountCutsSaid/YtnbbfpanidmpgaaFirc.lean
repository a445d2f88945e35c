/-
  The laws on FirstCuts and CountCuts, walked: whatever number comes in, each returns true and writes nothing that was there. No condition.
-/
import Derived.Test.YtnbbfpanidmpgaaSrch
namespace Go.Proofs.Ytnbbfpanidmpgaa
open Go.RowKit

theorem fsR_len (m : Int) : (fsR m).length ≤ 1099511627776 := by
  unfold fsR
  by_cases h : fsB m = true
  · rw [if_pos h]
    have hm := inB_iff.1 h
    have h3 := (least_le hm.1 hm.2).1
    cases e : allC m with
    | nil => simp
    | cons a l =>
      have ha : a ∈ allC m := by rw [e]; simp
      unfold allC at ha
      have := (combF_fit _ _ _ _ (List.mem_filter.1 ha).1).2
      show a.length ≤ _
      omega
  · rw [if_neg h]; simp

set_option maxHeartbeats 4000000 in
theorem implFirstCuts_any (m : Int) (w : World) : Calls Try.prog 41 #[.int .i64 m] w fun e w' => ∃ u, e = .returned (.tuple #[u, .bool (fsB m)]) ∧ Ow w' w.heap.size u (fsR m) ∧ Below w.heap.size w w' := by
  by_cases h63 : 63 < m
  · have hin : inB m 1 63 = false := by simp [inB]; omega
    have HR := Lib.hid (fs_no hin)
    clear hin
    go_enter Try.func41, Try.ntmps41
    go_wp2
    go_ret2
    exact ⟨_, ret_lb rfl HR.out.1.symm, by rw [HR.out.2.1]; exact ow_nil _ _, Below.refl _ _⟩
  · by_cases h1 : 1 ≤ m
    · have hm : 1 ≤ m ∧ m ≤ 63 := by omega
      have hin : inB m 1 63 = true := inB_iff.2 hm
      have hin2 : inB m 1 100000 = true := inB_iff.2 (by omega)
      have HR := Lib.hid (fs_yes hin)
      have hll := least_le hm.1 hm.2
      have AC := Lib.hid (show allC m = (combF m.toNat 0 (leastC mostC 0 m)).filter (payB m) from rfl)
      have FC := Lib.hid (fc_yes hin2)
      clear hin hin2
      go_enter Try.func41, Try.ntmps41
      go_wp2_with fail
      refine (implFewestCuts_any _ _).mono ?_
      rw [FC.out.1, FC.out.2]
      rintro e w1 ⟨rfl, b1⟩
      have z1 := b1.size
      go_wp2_with fail
      refine (searchCuts_any m (leastC mostC 0 m) hm hll.1 hll.2 _).mono ?_
      rintro e w2 ⟨u2, rfl, o2, b2⟩
      have b3 := nxt b1 b2
      clear b1 b2
      go_wp2_with fail
      go_ret2
      exact ⟨_, ret_lb rfl HR.out.1.symm, by rw [HR.out.2.1, AC.out]; exact o2.mono z1, b3⟩
    · have hin : inB m 1 63 = false := by simp [inB]; omega
      have hin2 : inB m 1 100000 = false := by simp [inB]; omega
      have HR := Lib.hid (fs_no hin)
      have FC := Lib.hid (fc_no hin2)
      clear hin hin2
      go_enter Try.func41, Try.ntmps41
      go_wp2_with fail
      refine (implFewestCuts_any _ _).mono ?_
      rw [FC.out.1, FC.out.2]
      rintro e w1 ⟨rfl, b1⟩
      go_wp2_with fail
      go_ret2
      exact ⟨_, ret_lb rfl HR.out.1.symm, by rw [HR.out.2.1]; exact ow_nil _ _, b1⟩

set_option maxHeartbeats 4000000 in
theorem implCountCuts_any (m : Int) (w : World) : Calls Try.prog 43 #[.int .i64 m] w fun e w' => e = .returned (.tuple #[.int .i64 (csR m), .bool (fsB m)]) ∧ Below w.heap.size w w' := by
  by_cases h63 : 63 < m
  · have hin : inB m 1 63 = false := by simp [inB]; omega
    have HR := Lib.hid (fs_no hin)
    clear hin
    go_enter Try.func43, Try.ntmps43
    go_wp2
    go_ret2
    exact ⟨ret_ib HR.out.2.2.symm HR.out.1.symm, Below.refl _ _⟩
  · by_cases h1 : 1 ≤ m
    · have hm : 1 ≤ m ∧ m ≤ 63 := by omega
      have hin : inB m 1 63 = true := inB_iff.2 hm
      have hin2 : inB m 1 100000 = true := inB_iff.2 (by omega)
      have HR := Lib.hid (fs_yes hin)
      have hll := least_le hm.1 hm.2
      have AC := Lib.hid (show allC m = (combF m.toNat 0 (leastC mostC 0 m)).filter (payB m) from rfl)
      have FC := Lib.hid (fc_yes hin2)
      clear hin hin2
      go_enter Try.func43, Try.ntmps43
      go_wp2_with fail
      refine (implFewestCuts_any _ _).mono ?_
      rw [FC.out.1, FC.out.2]
      rintro e w1 ⟨rfl, b1⟩
      have z1 := b1.size
      go_wp2_with fail
      refine (searchCuts_any m (leastC mostC 0 m) hm hll.1 hll.2 _).mono ?_
      rintro e w2 ⟨u2, rfl, o2, b2⟩
      have b3 := nxt b1 b2
      clear b1 b2
      go_wp2_with fail
      go_ret2
      exact ⟨ret_ib (by rw [HR.out.2.2, AC.out]; rfl) HR.out.1.symm, b3⟩
    · have hin : inB m 1 63 = false := by simp [inB]; omega
      have hin2 : inB m 1 100000 = false := by simp [inB]; omega
      have HR := Lib.hid (fs_no hin)
      have FC := Lib.hid (fc_no hin2)
      clear hin hin2
      go_enter Try.func43, Try.ntmps43
      go_wp2_with fail
      refine (implFewestCuts_any _ _).mono ?_
      rw [FC.out.1, FC.out.2]
      rintro e w1 ⟨rfl, b1⟩
      go_wp2_with fail
      go_ret2
      exact ⟨ret_ib HR.out.2.2.symm HR.out.1.symm, b1⟩

set_option maxHeartbeats 4000000 in
theorem lawFirstCuts (a1 : Int) (w : World) :
    Calls Try.prog 11 #[.int .i64 a1] w fun e w' => e = .returned (.bool true) ∧ Below w.heap.size w w' := by
  have hyl : (fsR a1).length ≤ 1099511627776 := fsR_len _
  go_enter Try.func11, Try.ntmps11
  go_wp2_with fail
  refine (specFirstCuts_any _ _).mono ?_
  rintro e w2 ⟨v2, rfl, o2, t2⟩
  go_wp2_with fail
  refine (implFirstCuts_any _ _).mono ?_
  rintro e w4 ⟨g4, rfl, o4, b4⟩
  have z2 := t2.size
  have p24 := ap_two o2 o4 (by omega)
  have o4 := o4.mono z2
  have q2 := o2.below b4 (Nat.le_refl _)
  have t4 := nxt t2 b4
  clear b4 t2 o2
  go_wp2_with fail
  refine (eqIntS_yes _ _ _ _ _ o4.sv q2.sv rfl hyl).mono ?_
  rintro e w9 ⟨rfl, b9⟩
  have o4 := o4.below b9 (Nat.le_refl _)
  have q2 := q2.below b9 (Nat.le_refl _)
  have t9 := nxt t4 b9
  have z9 := t9.size
  clear b9 t4
  go_wp2_with fail
  refine (markIntS_any _ (fsR a1) _ 1 _ o4 hyl (by omega) (by omega)).mono ?_
  rintro e w10 ⟨rfl, o10, g10⟩
  have q2 := q2.kept g10 p24
  have t10 := t9.trans (o4.marked (Nat.le_refl _) z9 g10)
  clear o4 g10 t9
  go_wp2_with fail
  refine (heldIntS_any _ (fsR a1).length 1 _ o10.sv hyl (by omega) (by omega)).mono ?_
  rintro e w10' ⟨rfl, rfl⟩
  go_wp2_with fail
  refine (implFirstCuts_any _ _).mono ?_
  rintro e w12 ⟨h12, rfl, o12, b12⟩
  have o10 := o10.below b12 (Nat.le_refl _)
  have q2 := q2.below b12 (Nat.le_refl _)
  have t12 := nxt t10 b12
  clear b12 t10
  go_wp2_with fail
  refine (eqIntS_yes _ _ _ _ _ o12.sv q2.sv rfl hyl).mono ?_
  rintro e w13 ⟨rfl, b13⟩
  have o10 := o10.below b13 (Nat.le_refl _)
  have t13 := nxt t12 b13
  clear b13 t12 o12 q2
  go_wp2_with fail
  refine (heldIntS_any _ (fsR a1).length 1 _ o10.sv hyl (by omega) (by omega)).mono ?_
  rintro e w13' ⟨rfl, rfl⟩
  go_wp2_with fail
  go_ret
  exact ⟨rfl, t13⟩

set_option maxHeartbeats 2000000 in
theorem lawCountCuts (a1 : Int) (w : World) :
    Calls Try.prog 12 #[.int .i64 a1] w fun e w' => e = .returned (.bool true) ∧ Below w.heap.size w w' := by
  go_enter Try.func12, Try.ntmps12
  go_wp2_with fail
  refine (specCountCuts_any _ _).mono ?_
  rintro e w1 ⟨rfl, b1⟩
  go_wp2_with fail
  refine (implCountCuts_any _ _).mono ?_
  rintro e w2 ⟨rfl, b2⟩
  have b2 := nxt b1 b2
  clear b1
  go_wp2_with fail
  go_ret
  exact ⟨rfl, b2⟩

end Go.Proofs.Ytnbbfpanidmpgaa
