/-
  BestReach, FirstBest and CountBest in the model, by their contracts. No condition.
-/
import Derived.Test.YtmllokooceghiaaStx
namespace Go.Proofs.Ytmllokooceghiaa
open Go.RowKit

set_option maxHeartbeats 2000000 in
set_option maxRecDepth 20000 in
theorem specBestReach_any (a1 a2 : Int) (w : World) :
    Calls Try.prog 39 #[.int .i64 a1, .int .i64 a2] w fun e w' => e = .returned (.tuple #[.int .i64 (brR a1 a2), .bool (fkB a1 a2)]) ∧ Below w.heap.size w w' := by
  by_cases hf : fkB a1 a2 = true
  · have Q := Lib.hid (show brR a1 a2 = (bsA a1 a2).2.1 by simp [brR, hf])
    have BC := Lib.hid (best_call hf w)
    go_enter Try.func39, Try.ntmps39
    go_wp2_with fail
    refine (stFewKinds_any _ _ _).mono ?_
    rw [hf]
    rintro e w1' ⟨rfl, rfl⟩
    go_wp2_with fail
    refine BC.out.mono ?_
    rintro e w2 ⟨u, rfl, ho, hb⟩
    go_wp2_with fail
    go_ret2
    exact ⟨ret_ib Q.out.symm hf.symm, hb⟩
  · have hf : fkB a1 a2 = false := by simpa using hf
    have Q := Lib.hid (show brR a1 a2 = 0 by simp [brR, hf])
    go_enter Try.func39, Try.ntmps39
    go_wp2_with fail
    refine (stFewKinds_any _ _ _).mono ?_
    rw [hf]
    rintro e w1' ⟨rfl, rfl⟩
    go_wp2_with fail
    go_ret2
    exact ⟨ret_ib Q.out.symm hf.symm, Below.refl _ _⟩
set_option maxHeartbeats 2000000 in
set_option maxRecDepth 20000 in
theorem specFirstBest_any (a1 a2 : Int) (w : World) :
    Calls Try.prog 41 #[.int .i64 a1, .int .i64 a2] w fun e w' => ∃ u, e = .returned (.tuple #[u, .bool (fkB a1 a2)]) ∧ Ow w' w.heap.size u (fbR a1 a2) ∧ Below w.heap.size w w' := by
  by_cases hf : fkB a1 a2 = true
  · have Q := Lib.hid (show fbR a1 a2 = (bsA a1 a2).1 by simp [fbR, hf])
    have BC := Lib.hid (best_call hf w)
    go_enter Try.func41, Try.ntmps41
    go_wp2_with fail
    refine (stFewKinds_any _ _ _).mono ?_
    rw [hf]
    rintro e w1' ⟨rfl, rfl⟩
    go_wp2_with fail
    refine BC.out.mono ?_
    rintro e w2 ⟨u, rfl, ho, hb⟩
    go_wp2_with fail
    go_ret2
    exact ⟨_, ret_lb rfl hf.symm, by rw [Q.out]; exact ho, hb⟩
  · have hf : fkB a1 a2 = false := by simpa using hf
    have Q := Lib.hid (show fbR a1 a2 = [] by simp [fbR, hf])
    go_enter Try.func41, Try.ntmps41
    go_wp2_with fail
    refine (stFewKinds_any _ _ _).mono ?_
    rw [hf]
    rintro e w1' ⟨rfl, rfl⟩
    go_wp2_with fail
    go_ret2
    exact ⟨_, ret_lb rfl hf.symm, by rw [Q.out]; exact World.ownsRow_nil _ _ _ _, Below.refl _ _⟩
set_option maxHeartbeats 2000000 in
set_option maxRecDepth 20000 in
theorem specCountBest_any (a1 a2 : Int) (w : World) :
    Calls Try.prog 43 #[.int .i64 a1, .int .i64 a2] w fun e w' => e = .returned (.tuple #[.int .i64 (cbR a1 a2), .bool (fkB a1 a2)]) ∧ Below w.heap.size w w' := by
  by_cases hf : fkB a1 a2 = true
  · have Q := Lib.hid (show cbR a1 a2 = (bsA a1 a2).2.2 by simp [cbR, hf])
    have BC := Lib.hid (best_call hf w)
    go_enter Try.func43, Try.ntmps43
    go_wp2_with fail
    refine (stFewKinds_any _ _ _).mono ?_
    rw [hf]
    rintro e w1' ⟨rfl, rfl⟩
    go_wp2_with fail
    refine BC.out.mono ?_
    rintro e w2 ⟨u, rfl, ho, hb⟩
    go_wp2_with fail
    go_ret2
    exact ⟨ret_ib Q.out.symm hf.symm, hb⟩
  · have hf : fkB a1 a2 = false := by simpa using hf
    have Q := Lib.hid (show cbR a1 a2 = 0 by simp [cbR, hf])
    go_enter Try.func43, Try.ntmps43
    go_wp2_with fail
    refine (stFewKinds_any _ _ _).mono ?_
    rw [hf]
    rintro e w1' ⟨rfl, rfl⟩
    go_wp2_with fail
    go_ret2
    exact ⟨ret_ib Q.out.symm hf.symm, Below.refl _ _⟩
end Go.Proofs.Ytmllokooceghiaa
