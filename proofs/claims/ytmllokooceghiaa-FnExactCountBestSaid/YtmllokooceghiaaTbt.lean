/-
  BestReach, FirstBest and CountBest in the program, by their contracts. No condition.
-/
import Derived.Test.YtmllokooceghiaaTbs
namespace Go.Proofs.Ytmllokooceghiaa
open Go.RowKit

set_option maxHeartbeats 4000000 in
theorem bestSets_no (a1 a2 : Int) (w : World) (h : fkB a1 a2 = false) :
    Calls Try.prog 68 #[.int .i64 a1, .int .i64 a2] w fun e w' => e = .returned (.tuple #[.agg #[.int .i64 0, .slice none 0 0, .int .i64 0], .bool false]) ∧ Below w.heap.size w w' := by
  have hF : ¬ ((1 ≤ a1 ∧ a1 ≤ 3) ∧ 1 ≤ a2 ∧ a2 ≤ 5) := fun g => by
    have : fkB a1 a2 = true := by simp [fkB, inB, g]
    rw [this] at h; cases h
  clear h
  have hb : Below w.heap.size w (w.alloc (.cells #[.int .i64 0, .slice none 0 0, .int .i64 0] 61)) := (Below.refl _ _).alloc (Nat.le_refl _) _
  by_cases h1 : a1 < 1
  · have d1 : decide (a1 < 1) = true := by simpa using h1
    clear hF
    go_enter Try.func68, Try.ntmps68
    go_wp2
    exact bodyPost_ret (v := .tuple #[.agg #[.int .i64 0, .slice none 0 0, .int .i64 0], .bool false]) (by simp [results, Try.results68, go_sem]) rfl ⟨rfl, hb⟩
  · have d1 : decide (a1 < 1) = false := by simpa using h1
    by_cases h2 : 3 < a1
    · have d2 : decide (3 < a1) = true := by simpa using h2
      clear hF
      go_enter Try.func68, Try.ntmps68
      go_wp2
      exact bodyPost_ret (v := .tuple #[.agg #[.int .i64 0, .slice none 0 0, .int .i64 0], .bool false]) (by simp [results, Try.results68, go_sem]) rfl ⟨rfl, hb⟩
    · have d2 : decide (3 < a1) = false := by simpa using h2
      by_cases h3 : a2 < 1
      · have d3 : decide (a2 < 1) = true := by simpa using h3
        clear hF
        go_enter Try.func68, Try.ntmps68
        go_wp2
        exact bodyPost_ret (v := .tuple #[.agg #[.int .i64 0, .slice none 0 0, .int .i64 0], .bool false]) (by simp [results, Try.results68, go_sem]) rfl ⟨rfl, hb⟩
      · have d3 : decide (a2 < 1) = false := by simpa using h3
        have h4 : 5 < a2 := by omega
        have d4 : decide (5 < a2) = true := by simpa using h4
        clear hF
        go_enter Try.func68, Try.ntmps68
        go_wp2
        exact bodyPost_ret (v := .tuple #[.agg #[.int .i64 0, .slice none 0 0, .int .i64 0], .bool false]) (by simp [results, Try.results68, go_sem]) rfl ⟨rfl, hb⟩

theorem best_any (a1 a2 : Int) (w : World) (h : fkB a1 a2 = true) :
    Calls Try.prog 68 #[.int .i64 a1, .int .i64 a2] w fun e w' => ∃ p n c, e = .returned (.tuple #[.agg #[.int .i64 (brR a1 a2), .slice p n c, .int .i64 (cbR a1 a2)], .bool true]) ∧ Ow w' w.heap.size (.slice p n c) (fbR a1 a2) ∧ Below w.heap.size w w' := by
  have hh := h
  simp only [fkB, Bool.and_eq_true] at hh
  have g1 := inB_iff.1 hh.1
  have g2 := inB_iff.1 hh.2
  obtain ⟨k, rfl⟩ : ∃ k : Nat, a1 = k := ⟨a1.toNat, by omega⟩
  obtain ⟨r, rfl⟩ : ∃ r : Nat, a2 = r := ⟨a2.toNat, by omega⟩
  have e1 : brR k r = (bs r (k - 1) [1]).2.1 := by unfold brR bsA; rw [if_pos h]; rfl
  have e2 : cbR k r = (bs r (k - 1) [1]).2.2 := by unfold cbR bsA; rw [if_pos h]; rfl
  have e3 : fbR k r = (bs r (k - 1) [1]).1 := by unfold fbR bsA; rw [if_pos h]; rfl
  rw [e1, e2, e3]
  exact bestSets_yes k r w (by omega) (by omega) (by omega) (by omega)

set_option maxHeartbeats 4000000 in
theorem implBestReach_any (a1 a2 : Int) (w : World) :
    Calls Try.prog 40 #[.int .i64 a1, .int .i64 a2] w fun e w' => e = .returned (.tuple #[.int .i64 (brR a1 a2), .bool (fkB a1 a2)]) ∧ Below w.heap.size w w' := by
  by_cases h : fkB a1 a2 = true
  · have BA := Lib.hid (best_any a1 a2 w h)
    rw [h]
    go_enter Try.func40, Try.ntmps40
    go_wp2_with fail
    refine BA.out.mono ?_
    rintro e w1 ⟨p, m, c, rfl, o1, b1⟩
    have b2 := b1.alloc b1.size (.cells #[.int .i64 (brR a1 a2), .slice p m c, .int .i64 (cbR a1 a2)] 61)
    clear o1
    go_wp2
    go_ret2
    exact ⟨rfl, b2⟩
  · have h : fkB a1 a2 = false := by simpa using h
    have BA := Lib.hid (bestSets_no a1 a2 w h)
    have Q : Hid (0 = brR a1 a2) := Lib.hid (by simp [brR, h])
    rw [h]
    go_enter Try.func40, Try.ntmps40
    go_wp2_with fail
    refine BA.out.mono ?_
    rintro e w1 ⟨rfl, b1⟩
    have b2 := b1.alloc b1.size (.cells #[.int .i64 0, .slice none 0 0, .int .i64 0] 61)
    go_wp2
    go_ret2
    exact ⟨ret_ib Q.out rfl, b2⟩

set_option maxHeartbeats 4000000 in
theorem implCountBest_any (a1 a2 : Int) (w : World) :
    Calls Try.prog 44 #[.int .i64 a1, .int .i64 a2] w fun e w' => e = .returned (.tuple #[.int .i64 (cbR a1 a2), .bool (fkB a1 a2)]) ∧ Below w.heap.size w w' := by
  by_cases h : fkB a1 a2 = true
  · have BA := Lib.hid (best_any a1 a2 w h)
    rw [h]
    go_enter Try.func44, Try.ntmps44
    go_wp2_with fail
    refine BA.out.mono ?_
    rintro e w1 ⟨p, m, c, rfl, o1, b1⟩
    have b2 := b1.alloc b1.size (.cells #[.int .i64 (brR a1 a2), .slice p m c, .int .i64 (cbR a1 a2)] 61)
    clear o1
    go_wp2
    go_ret2
    exact ⟨rfl, b2⟩
  · have h : fkB a1 a2 = false := by simpa using h
    have BA := Lib.hid (bestSets_no a1 a2 w h)
    have Q : Hid (0 = cbR a1 a2) := Lib.hid (by simp [cbR, h])
    rw [h]
    go_enter Try.func44, Try.ntmps44
    go_wp2_with fail
    refine BA.out.mono ?_
    rintro e w1 ⟨rfl, b1⟩
    have b2 := b1.alloc b1.size (.cells #[.int .i64 0, .slice none 0 0, .int .i64 0] 61)
    go_wp2
    go_ret2
    exact ⟨ret_ib Q.out rfl, b2⟩

set_option maxHeartbeats 4000000 in
theorem implFirstBest_any (a1 a2 : Int) (w : World) :
    Calls Try.prog 42 #[.int .i64 a1, .int .i64 a2] w fun e w' => ∃ u, e = .returned (.tuple #[u, .bool (fkB a1 a2)]) ∧ Ow w' w.heap.size u (fbR a1 a2) ∧ Below w.heap.size w w' := by
  by_cases h : fkB a1 a2 = true
  · have BA := Lib.hid (best_any a1 a2 w h)
    rw [h]
    go_enter Try.func42, Try.ntmps42
    go_wp2_with fail
    refine BA.out.mono ?_
    rintro e w1 ⟨p, m, c, rfl, o1, b1⟩
    have b2 := b1.alloc b1.size (.cells #[.int .i64 (brR a1 a2), .slice p m c, .int .i64 (cbR a1 a2)] 61)
    have o2 := o1.alloc (.cells #[.int .i64 (brR a1 a2), .slice p m c, .int .i64 (cbR a1 a2)] 61)
    clear o1
    go_wp2
    go_ret2
    exact ⟨_, rfl, o2, b2⟩
  · have h : fkB a1 a2 = false := by simpa using h
    have BA := Lib.hid (bestSets_no a1 a2 w h)
    have Q : Hid (fbR a1 a2 = []) := Lib.hid (by simp [fbR, h])
    rw [h, Q.out]
    go_enter Try.func42, Try.ntmps42
    go_wp2_with fail
    refine BA.out.mono ?_
    rintro e w1 ⟨rfl, b1⟩
    have b2 := b1.alloc b1.size (.cells #[.int .i64 0, .slice none 0 0, .int .i64 0] 61)
    go_wp2
    go_ret2
    exact ⟨_, rfl, World.ownsRow_nil _ _ _ _, b2⟩
end Go.Proofs.Ytmllokooceghiaa
