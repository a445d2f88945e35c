/-
  What a clue is, and what a puzzle is: in the model by a switch, in the program by bounds, a panic and a deferred recover, by their contracts. Conditions: at most 2^40 clues.
-/
import Derived.Test.YtgojlabkngnkdaaDoorYtc
import Derived.Recover
import Derived.Defers
import Derived.WalkLawsBesides
namespace Go.Proofs.YtgojlabkngnkdaaDoor
open Go.RowKit

theorem in00 (b : Int) : inB b 0 0 = (b == 0) := by
  by_cases h : b = 0
  · subst h; rfl
  · rw [beq_eq_false_iff_ne.2 h]
    cases e : inB b 0 0
    · rfl
    · exact (h (by have := inB_iff.1 e; omega)).elim
theorem clB_0 (a b : Int) : clB ⟨0, a, b⟩ = (inB a 0 4 && (b == 0)) := by
  rw [← in00]; rfl
theorem clB_1 (a b : Int) : clB ⟨1, a, b⟩ = (inB a 0 24 && (b == 0)) := by
  rw [← in00]; rfl
theorem clB_2 (a b : Int) : clB ⟨2, a, b⟩ = (inB a 0 24 && inB b 0 1) := rfl
theorem clB_3 (a b : Int) : clB ⟨3, a, b⟩ = (inB a 0 24 && (b == 0)) := by
  rw [← in00]; rfl
theorem clB_4 (a b : Int) : clB ⟨4, a, b⟩ = (inB a 0 24 && inB b 0 16) := rfl
theorem clB_5 (a b : Int) : clB ⟨5, a, b⟩ = (inB a 1 6 && inB b 0 4) := rfl
theorem clB_no {k a b : Int} (h : inB k 0 5 = false) : clB ⟨k, a, b⟩ = false := by simp [clB, h]

set_option maxHeartbeats 4000000 in
theorem pzClue_any (k a b : Int) (w : World) :
    Calls Tryd.prog 70 #[.agg #[.int .i64 k, .int .i64 a, .int .i64 b]] w fun e w' => e = .returned (.bool (clB ⟨k, a, b⟩)) ∧ Below w.heap.size w w' := by
  have b1 : Below w.heap.size w (w.alloc (.cells #[.int .i64 k, .int .i64 a, .int .i64 b] 73)) := (Below.refl _ _).alloc (Nat.le_refl _) _
  by_cases hk : inB k 0 5 = true
  · obtain h | h | h | h | h | h := k_cases (inB_iff.1 hk) <;> subst h
    · rw [clB_0]
      cases hA : inB a 0 4
      all_goals
        go_enter Tryd.func70, Tryd.ntmps70
        go_wp2_with (go_at_call 52; refine (l1In_any _ _ _ _).mono ?_; rintro e w' ⟨rfl, rfl⟩; try rw [hA])
        go_ret
        exact ⟨rfl, b1⟩
    · rw [clB_1]
      cases hA : inB a 0 24
      all_goals
        go_enter Tryd.func70, Tryd.ntmps70
        go_wp2_with (go_at_call 52; refine (l1In_any _ _ _ _).mono ?_; rintro e w' ⟨rfl, rfl⟩; try rw [hA])
        go_ret
        exact ⟨rfl, b1⟩
    · rw [clB_2]
      cases hA : inB a 0 24
      all_goals
        go_enter Tryd.func70, Tryd.ntmps70
        go_wp2_with (go_at_call 52; refine (l1In_any _ _ _ _).mono ?_; rintro e w' ⟨rfl, rfl⟩; try rw [hA])
        go_ret
        exact ⟨rfl, b1⟩
    · rw [clB_3]
      cases hA : inB a 0 24
      all_goals
        go_enter Tryd.func70, Tryd.ntmps70
        go_wp2_with (go_at_call 52; refine (l1In_any _ _ _ _).mono ?_; rintro e w' ⟨rfl, rfl⟩; try rw [hA])
        go_ret
        exact ⟨rfl, b1⟩
    · rw [clB_4]
      cases hA : inB a 0 24
      all_goals
        go_enter Tryd.func70, Tryd.ntmps70
        go_wp2_with (go_at_call 52; refine (l1In_any _ _ _ _).mono ?_; rintro e w' ⟨rfl, rfl⟩; try rw [hA])
        go_ret
        exact ⟨rfl, b1⟩
    · rw [clB_5]
      cases hA : inB a 1 6
      all_goals
        go_enter Tryd.func70, Tryd.ntmps70
        go_wp2_with (go_at_call 52; refine (l1In_any _ _ _ _).mono ?_; rintro e w' ⟨rfl, rfl⟩; try rw [hA])
        go_ret
        exact ⟨rfl, b1⟩
  · have hk : inB k 0 5 = false := by simpa using hk
    rw [clB_no hk]
    have n0 : (k == 0) = false := by rw [beq_eq_false_iff_ne]; rintro rfl; cases hk
    have n1 : (k == 1) = false := by rw [beq_eq_false_iff_ne]; rintro rfl; cases hk
    have n2 : (k == 2) = false := by rw [beq_eq_false_iff_ne]; rintro rfl; cases hk
    have n3 : (k == 3) = false := by rw [beq_eq_false_iff_ne]; rintro rfl; cases hk
    have n4 : (k == 4) = false := by rw [beq_eq_false_iff_ne]; rintro rfl; cases hk
    have n5 : (k == 5) = false := by rw [beq_eq_false_iff_ne]; rintro rfl; cases hk
    clear hk
    go_enter Tryd.func70, Tryd.ntmps70
    go_wp2
    go_ret
    exact ⟨rfl, b1⟩

set_option maxHeartbeats 4000000 in
theorem boundsFor_no (k a b : Int) (w : World) (hk : inB k 0 5 = false) :
    Calls Tryd.prog 102 #[.agg #[.int .i64 k, .int .i64 a, .int .i64 b]] w fun e w' => e = .panicked [{ v := .iface 110 (.agg #[.int .i64 k, .int .i64 a, .int .i64 b]), recovered := false }] ∧ Below w.heap.size w w' := by
  have n0 : (k == 0) = false := by rw [beq_eq_false_iff_ne]; rintro rfl; cases hk
  have n1 : (k == 1) = false := by rw [beq_eq_false_iff_ne]; rintro rfl; cases hk
  have n2 : (k == 2) = false := by rw [beq_eq_false_iff_ne]; rintro rfl; cases hk
  have n3 : (k == 3) = false := by rw [beq_eq_false_iff_ne]; rintro rfl; cases hk
  have n4 : (k == 4) = false := by rw [beq_eq_false_iff_ne]; rintro rfl; cases hk
  have n5 : (k == 5) = false := by rw [beq_eq_false_iff_ne]; rintro rfl; cases hk
  clear hk
  go_enter Tryd.func102, Tryd.ntmps102
  go_wp2
  exact ⟨rfl, rfl, ((Below.refl _ _).alloc (Nat.le_refl _) _).alloc (by simp) _⟩

set_option maxHeartbeats 4000000 in
theorem boundsFor_yes (k a b : Int) (w : World) (hk : inB k 0 5 = true) :
    Calls Tryd.prog 102 #[.agg #[.int .i64 k, .int .i64 a, .int .i64 b]] w fun e w' => e = .returned (.agg #[.int .i64 (clL k), .int .i64 (clM k), .int .i64 (clQ k)]) ∧ Below w.heap.size w w' := by
  obtain h | h | h | h | h | h := k_cases (inB_iff.1 hk) <;> subst h
  all_goals
    go_enter Tryd.func102, Tryd.ntmps102
    go_wp2
    refine bodyPost_ret (by simp [results, Tryd.results102, go_sem]; exact ⟨rfl, rfl, rfl⟩) rfl ⟨rfl, ?_⟩
    exact ((Below.refl _ _).alloc (Nat.le_refl _) _).alloc (by simp) _

set_option maxHeartbeats 4000000 in
theorem raise_no (k a b : Int) (w : World) (h : clB ⟨k, a, b⟩ = false) :
    Calls Tryd.prog 85 #[.agg #[.int .i64 k, .int .i64 a, .int .i64 b]] w fun e w' => e = .panicked [{ v := .iface 110 (.agg #[.int .i64 k, .int .i64 a, .int .i64 b]), recovered := false }] ∧ Below w.heap.size w w' := by
  have b1 : Below w.heap.size w (w.alloc (.cells #[.int .i64 k, .int .i64 a, .int .i64 b] 73)) := (Below.refl _ _).alloc (Nat.le_refl _) _
  by_cases hk : inB k 0 5 = true
  · have BY := Lib.hid (boundsFor_yes k a b (w.alloc (.cells #[.int .i64 k, .int .i64 a, .int .i64 b] 73)) hk)
    simp only [clB, hk, Bool.true_and] at h
    generalize clL k = L at *
    generalize clM k = M at *
    generalize clQ k = Q at *
    have hc : a < L ∨ (¬ a < L ∧ M < a) ∨ (¬ a < L ∧ ¬ M < a ∧ b < 0) ∨ (¬ a < L ∧ ¬ M < a ∧ ¬ b < 0 ∧ Q < b) := by
      by_cases e1 : inB a L M = true
      · have e2 : inB b 0 Q = false := by rw [e1] at h; simpa using h
        have := inB_iff.1 e1
        have h3 : ¬ (0 ≤ b ∧ b ≤ Q) := fun h4 => by rw [inB_iff.2 h4] at e2; cases e2
        omega
      · have h3 : ¬ (L ≤ a ∧ a ≤ M) := fun h4 => e1 (inB_iff.2 h4)
        omega
    clear h hk
    rcases hc with h1 | ⟨h1, h2⟩ | ⟨h1, h2, h3⟩ | ⟨h1, h2, h3, h4⟩
    all_goals
      go_enter Tryd.func85, Tryd.ntmps85
      go_wp2_with fail
      refine BY.out.mono ?_
      rintro e w2 ⟨rfl, b2⟩
      have c1 : w2.cell? ⟨w.heap.size, 0, none⟩ = some (.int .i64 k) := (b2.cell (p := ⟨w.heap.size, 0, none⟩) (by simp)).trans (by simp [go_sem])
      have c2 : w2.cell? ⟨w.heap.size, 1, none⟩ = some (.int .i64 a) := (b2.cell (p := ⟨w.heap.size, 1, none⟩) (by simp)).trans (by simp [go_sem])
      have c3 : w2.cell? ⟨w.heap.size, 2, none⟩ = some (.int .i64 b) := (b2.cell (p := ⟨w.heap.size, 2, none⟩) (by simp)).trans (by simp [go_sem])
      have hz : w.heap.size < w2.heap.size := by have := b2.size; simp at this; omega
      have hB := Lib.hid (nxt b1 b2)
      clear b2 b1
      go_wp2
      exact ⟨rfl, rfl, hB.out.alloc (by omega) _⟩
  · have hk : inB k 0 5 = false := by simpa using hk
    have BN := Lib.hid (boundsFor_no k a b (w.alloc (.cells #[.int .i64 k, .int .i64 a, .int .i64 b] 73)) hk)
    clear hk h
    go_enter Tryd.func85, Tryd.ntmps85
    go_wp2_with fail
    refine BN.out.mono ?_
    rintro e w2 ⟨rfl, b2⟩
    exact ⟨rfl, rfl, nxt b1 b2⟩

set_option maxHeartbeats 4000000 in
theorem raise_yes (k a b : Int) (w : World) (h : clB ⟨k, a, b⟩ = true) :
    Calls Tryd.prog 85 #[.agg #[.int .i64 k, .int .i64 a, .int .i64 b]] w fun e w' => e = .returned (.tuple #[]) ∧ Below w.heap.size w w' := by
  have b1 : Below w.heap.size w (w.alloc (.cells #[.int .i64 k, .int .i64 a, .int .i64 b] 73)) := (Below.refl _ _).alloc (Nat.le_refl _) _
  obtain ⟨hk, ⟨h1, h2⟩, h3, h4⟩ := clB_parts h
  simp only at hk h1 h2 h3 h4
  have BY := Lib.hid (boundsFor_yes k a b (w.alloc (.cells #[.int .i64 k, .int .i64 a, .int .i64 b] 73)) (inB_iff.2 hk))
  clear h hk
  generalize clL k = L at *
  generalize clM k = M at *
  generalize clQ k = Q at *
  have d1 : ¬ a < L := by omega
  have d2 : ¬ M < a := by omega
  have d3 : ¬ b < 0 := by omega
  have d4 : ¬ Q < b := by omega
  clear h1 h2 h3 h4
  go_enter Tryd.func85, Tryd.ntmps85
  go_wp2_with fail
  refine BY.out.mono ?_
  rintro e w2 ⟨rfl, b2⟩
  have c1 : w2.cell? ⟨w.heap.size, 0, none⟩ = some (.int .i64 k) := (b2.cell (p := ⟨w.heap.size, 0, none⟩) (by simp)).trans (by simp [go_sem])
  have c2 : w2.cell? ⟨w.heap.size, 1, none⟩ = some (.int .i64 a) := (b2.cell (p := ⟨w.heap.size, 1, none⟩) (by simp)).trans (by simp [go_sem])
  have c3 : w2.cell? ⟨w.heap.size, 2, none⟩ = some (.int .i64 b) := (b2.cell (p := ⟨w.heap.size, 2, none⟩) (by simp)).trans (by simp [go_sem])
  have hz : w.heap.size < w2.heap.size := by have := b2.size; simp at this; omega
  have hB := Lib.hid (nxt b1 b2)
  clear b2 b1
  go_wp2
  go_end0
  exact ⟨rfl, hB.out.alloc (by omega) _⟩
end Go.Proofs.YtgojlabkngnkdaaDoor
