/-
  The laws on MostLinks, MostRing, FewestCuts and FewestRingCuts, walked: whatever number comes in, each returns true and writes nothing. No condition.
-/
import Derived.Test.YtnbbfpanidmpgaaGood
import Derived.Test.YtnbbfpanidmpgaaCleast
namespace Go.Proofs.Ytnbbfpanidmpgaa
open Go.RowKit
theorem ret_ib {k : IntKind} {a b : Int} {c d : Bool} (h : a = b) (g : c = d) : Ending.returned (.tuple #[.int k a, .bool c]) = .returned (.tuple #[.int k b, .bool d]) := by rw [h, g]

set_option maxHeartbeats 1000000 in
theorem chMost_any (c : Nat) (h0 : 0 ≤ c) (h : c ≤ 12) (w : World) : Calls Try.prog 70 #[.int .i64 (c : Int)] w fun e w' => e = .returned (.int .i64 (mostC c)) ∧ w = w' := by
  rcases (by omega : c = 0 ∨ c = 1 ∨ c = 2 ∨ c = 3 ∨ c = 4 ∨ c = 5 ∨ c = 6 ∨ c = 7 ∨ c = 8 ∨ c = 9 ∨ c = 10 ∨ c = 11 ∨ c = 12) with rfl | rfl | rfl | rfl | rfl | rfl | rfl | rfl | rfl | rfl | rfl | rfl | rfl
  all_goals
    go_enter Try.func70, Try.ntmps70
    go_wp2
    go_ret
    exact ⟨ret_int (by decide), rfl⟩

set_option maxHeartbeats 1000000 in
theorem mostLinks_any (c : Nat) (h0 : 0 ≤ c) (h : c ≤ 12) (w : World) : Calls Try.prog 71 #[.int .i64 (c : Int)] w fun e w' => e = .returned (.int .i64 (mostC c)) ∧ w = w' := by
  rcases (by omega : c = 0 ∨ c = 1 ∨ c = 2 ∨ c = 3 ∨ c = 4 ∨ c = 5 ∨ c = 6 ∨ c = 7 ∨ c = 8 ∨ c = 9 ∨ c = 10 ∨ c = 11 ∨ c = 12) with rfl | rfl | rfl | rfl | rfl | rfl | rfl | rfl | rfl | rfl | rfl | rfl | rfl
  all_goals
    go_enter Try.func71, Try.ntmps71
    go_wp2
    go_ret
    exact ⟨ret_int (by decide), rfl⟩

set_option maxHeartbeats 1000000 in
theorem chRing_any (c : Nat) (h0 : 1 ≤ c) (h : c ≤ 13) (w : World) : Calls Try.prog 78 #[.int .i64 (c : Int)] w fun e w' => e = .returned (.int .i64 (mostR c)) ∧ w = w' := by
  rcases (by omega : c = 1 ∨ c = 2 ∨ c = 3 ∨ c = 4 ∨ c = 5 ∨ c = 6 ∨ c = 7 ∨ c = 8 ∨ c = 9 ∨ c = 10 ∨ c = 11 ∨ c = 12 ∨ c = 13) with rfl | rfl | rfl | rfl | rfl | rfl | rfl | rfl | rfl | rfl | rfl | rfl | rfl
  all_goals
    go_enter Try.func78, Try.ntmps78
    go_wp2
    go_ret
    exact ⟨ret_int (by decide), rfl⟩

set_option maxHeartbeats 1000000 in
theorem mostRing_any (c : Nat) (h0 : 1 ≤ c) (h : c ≤ 13) (w : World) : Calls Try.prog 79 #[.int .i64 (c : Int)] w fun e w' => e = .returned (.int .i64 (mostR c)) ∧ w = w' := by
  rcases (by omega : c = 1 ∨ c = 2 ∨ c = 3 ∨ c = 4 ∨ c = 5 ∨ c = 6 ∨ c = 7 ∨ c = 8 ∨ c = 9 ∨ c = 10 ∨ c = 11 ∨ c = 12 ∨ c = 13) with rfl | rfl | rfl | rfl | rfl | rfl | rfl | rfl | rfl | rfl | rfl | rfl | rfl
  all_goals
    go_enter Try.func79, Try.ntmps79
    go_wp2
    go_ret
    exact ⟨ret_int (by decide), rfl⟩

/-- The answer to a number of cuts. -/
def mlB (a : Int) : Bool := inB a 0 9
def mlR (a : Int) : Int := if mlB a = true then mostC a.toNat else 0
theorem ml_no {a : Int} (h : inB a 0 9 = false) : mlB a = false ∧ mlR a = 0 := by
  have : mlB a = false := h
  exact ⟨this, by simp [mlR, this]⟩
theorem ml_yes {a : Int} (h : inB a 0 9 = true) : mlB a = true ∧ mlR a = mostC a.toNat := by
  have : mlB a = true := h
  exact ⟨this, by simp [mlR, this]⟩
set_option maxHeartbeats 1000000 in
theorem specMostLinks_any (a : Int) (w : World) : Calls Try.prog 34 #[.int .i64 a] w fun e w' => e = .returned (.tuple #[.int .i64 (mlR a), .bool (mlB a)]) ∧ Below w.heap.size w w' := by
  by_cases hin : inB a 0 9 = true
  · have hb := inB_iff.1 hin
    have HR := Lib.hid (ml_yes hin)
    obtain ⟨c, rfl⟩ : ∃ c : Nat, a = c := ⟨a.toNat, by omega⟩
    go_enter Try.func34, Try.ntmps34
    go_wp2_with (first | (go_at_call 69; refine (l1In_any _ _ _ _).mono ?_; rintro e w' ⟨rfl, rfl⟩) | (go_at_call 70; refine (chMost_any c (by omega) (by omega) _).mono ?_; rintro e w' ⟨rfl, rfl⟩))
    go_ret2
    exact ⟨ret_ib (by rw [HR.out.2, Int.toNat_natCast]) HR.out.1.symm, Below.refl _ _⟩
  · have hin : inB a 0 9 = false := by simpa using hin
    have HR := Lib.hid (ml_no hin)
    go_enter Try.func34, Try.ntmps34
    go_wp2_with (go_at_call 69; refine (l1In_any _ _ _ _).mono ?_; rintro e w' ⟨rfl, rfl⟩)
    go_ret2
    exact ⟨ret_ib HR.out.2.symm HR.out.1.symm, Below.refl _ _⟩
set_option maxHeartbeats 1000000 in
theorem implMostLinks_any (a : Int) (w : World) : Calls Try.prog 35 #[.int .i64 a] w fun e w' => e = .returned (.tuple #[.int .i64 (mlR a), .bool (mlB a)]) ∧ Below w.heap.size w w' := by
  by_cases hin : inB a 0 9 = true
  · have hb := inB_iff.1 hin
    have HR := Lib.hid (ml_yes hin)
    obtain ⟨c, rfl⟩ : ∃ c : Nat, a = c := ⟨a.toNat, by omega⟩
    have d1 : decide ((c : Int) < 0) = false := by rw [decide_eq_false_iff_not]; omega
    clear hin
    go_enter Try.func35, Try.ntmps35
    go_wp2_with (go_at_call 71; refine (mostLinks_any c (by omega) (by omega) _).mono ?_; rintro e w' ⟨rfl, rfl⟩)
    go_ret2
    exact ⟨ret_ib (by rw [HR.out.2, Int.toNat_natCast]) HR.out.1.symm, Below.refl _ _⟩
  · have hin : inB a 0 9 = false := by simpa using hin
    have HR := Lib.hid (ml_no hin)
    by_cases h0 : a < 0
    · have d1 : decide (a < 0) = true := by simpa using h0
      go_enter Try.func35, Try.ntmps35
      go_wp2
      go_ret2
      exact ⟨ret_ib HR.out.2.symm HR.out.1.symm, Below.refl _ _⟩
    · have d1 : decide (a < 0) = false := by simpa using h0
      have h9 : 9 < a := by simp [inB] at hin; omega
      clear hin
      go_enter Try.func35, Try.ntmps35
      go_wp2
      go_ret2
      exact ⟨ret_ib HR.out.2.symm HR.out.1.symm, Below.refl _ _⟩

/-- The answer to a number of cuts. -/
def mrB (a : Int) : Bool := inB a 1 9
def mrR (a : Int) : Int := if mrB a = true then mostR a.toNat else 0
theorem mr_no {a : Int} (h : inB a 1 9 = false) : mrB a = false ∧ mrR a = 0 := by
  have : mrB a = false := h
  exact ⟨this, by simp [mrR, this]⟩
theorem mr_yes {a : Int} (h : inB a 1 9 = true) : mrB a = true ∧ mrR a = mostR a.toNat := by
  have : mrB a = true := h
  exact ⟨this, by simp [mrR, this]⟩
set_option maxHeartbeats 1000000 in
theorem specMostRing_any (a : Int) (w : World) : Calls Try.prog 50 #[.int .i64 a] w fun e w' => e = .returned (.tuple #[.int .i64 (mrR a), .bool (mrB a)]) ∧ Below w.heap.size w w' := by
  by_cases hin : inB a 1 9 = true
  · have hb := inB_iff.1 hin
    have HR := Lib.hid (mr_yes hin)
    obtain ⟨c, rfl⟩ : ∃ c : Nat, a = c := ⟨a.toNat, by omega⟩
    go_enter Try.func50, Try.ntmps50
    go_wp2_with (first | (go_at_call 69; refine (l1In_any _ _ _ _).mono ?_; rintro e w' ⟨rfl, rfl⟩) | (go_at_call 78; refine (chRing_any c (by omega) (by omega) _).mono ?_; rintro e w' ⟨rfl, rfl⟩))
    go_ret2
    exact ⟨ret_ib (by rw [HR.out.2, Int.toNat_natCast]) HR.out.1.symm, Below.refl _ _⟩
  · have hin : inB a 1 9 = false := by simpa using hin
    have HR := Lib.hid (mr_no hin)
    go_enter Try.func50, Try.ntmps50
    go_wp2_with (go_at_call 69; refine (l1In_any _ _ _ _).mono ?_; rintro e w' ⟨rfl, rfl⟩)
    go_ret2
    exact ⟨ret_ib HR.out.2.symm HR.out.1.symm, Below.refl _ _⟩
set_option maxHeartbeats 1000000 in
theorem implMostRing_any (a : Int) (w : World) : Calls Try.prog 51 #[.int .i64 a] w fun e w' => e = .returned (.tuple #[.int .i64 (mrR a), .bool (mrB a)]) ∧ Below w.heap.size w w' := by
  by_cases hin : inB a 1 9 = true
  · have hb := inB_iff.1 hin
    have HR := Lib.hid (mr_yes hin)
    obtain ⟨c, rfl⟩ : ∃ c : Nat, a = c := ⟨a.toNat, by omega⟩
    have d1 : decide ((c : Int) < 1) = false := by rw [decide_eq_false_iff_not]; omega
    clear hin
    go_enter Try.func51, Try.ntmps51
    go_wp2_with (go_at_call 79; refine (mostRing_any c (by omega) (by omega) _).mono ?_; rintro e w' ⟨rfl, rfl⟩)
    go_ret2
    exact ⟨ret_ib (by rw [HR.out.2, Int.toNat_natCast]) HR.out.1.symm, Below.refl _ _⟩
  · have hin : inB a 1 9 = false := by simpa using hin
    have HR := Lib.hid (mr_no hin)
    by_cases h0 : a < 1
    · have d1 : decide (a < 1) = true := by simpa using h0
      go_enter Try.func51, Try.ntmps51
      go_wp2
      go_ret2
      exact ⟨ret_ib HR.out.2.symm HR.out.1.symm, Below.refl _ _⟩
    · have d1 : decide (a < 1) = false := by simpa using h0
      have h9 : 9 < a := by simp [inB] at hin; omega
      clear hin
      go_enter Try.func51, Try.ntmps51
      go_wp2
      go_ret2
      exact ⟨ret_ib HR.out.2.symm HR.out.1.symm, Below.refl _ _⟩

theorem fc_top {a : Int} (h : a ≤ 100000) {c : Nat} (hall : ∀ j, 0 ≤ j → j < c → mostC j < a) : c ≤ 12 := by
  apply Classical.byContradiction
  intro hc
  have := hall 12 (by omega) (by omega)
  have e : mostC 12 ≥ 100000 := by decide
  omega
theorem fc_next {a : Int} {c : Nat} (hall : ∀ j, 0 ≤ j → j < c → mostC j < a) (h : mostC c < a) : ∀ j, 0 ≤ j → j < c + 1 → mostC j < a := by
  intro j h1 h2
  by_cases e : j = c
  · subst e; exact h
  · exact hall j h1 (by omega)
theorem fc_at {a : Int} {c : Nat} (h0 : 0 ≤ c) (hall : ∀ j, 0 ≤ j → j < c → mostC j < a) (h : a ≤ mostC c) : leastC mostC 0 a = c := leastC_eq ⟨h0, h, hall⟩
noncomputable def fcB (a : Int) : Bool := inB a 1 100000
noncomputable def fcR (a : Int) : Int := if fcB a = true then (leastC mostC 0 a : Nat) else 0
theorem fc_no {a : Int} (h : inB a 1 100000 = false) : fcB a = false ∧ fcR a = 0 := by
  have : fcB a = false := h
  exact ⟨this, by simp [fcR, this]⟩
theorem fc_yes {a : Int} (h : inB a 1 100000 = true) : fcB a = true ∧ fcR a = (leastC mostC 0 a : Nat) := by
  have : fcB a = true := h
  exact ⟨this, by simp [fcR, this]⟩

set_option maxHeartbeats 1000000 in
theorem chFewest_any (a : Int) (w : World) (hb : 1 ≤ a ∧ a ≤ 100000) : Calls Try.prog 72 #[.int .i64 a] w fun e w' => e = .returned (.int .i64 (leastC mostC 0 a : Nat)) ∧ w = w' := by
    go_enter Try.func72, Try.ntmps72
    go_wp2
    go_loop [3] (fun i => ∃ c : Nat, 0 ≤ c ∧ i = .int .i64 c ∧ ∀ j, 0 ≤ j → j < c → mostC j < a) (fun i => 1000 - (intOf i).toNat)
    case atStart => exact ⟨0, by omega, rfl, fun j h1 h2 => by omega⟩
    case round =>
      obtain ⟨c, hc0, rfl, hall⟩ := hrel
      have hc : c ≤ 12 := fc_top hb.2 hall
      obtain ⟨y, hy⟩ : ∃ y, mostC c = y := ⟨_, rfl⟩
      have HY := Lib.hid hy
      have HA := Lib.hid hall
      clear hall
      by_cases hl : y < a
      · go_wp2_with (go_at_call 70; refine (chMost_any c (by omega) (by omega) _).mono ?_; rw [hy]; clear hy; rintro e w' ⟨rfl, rfl⟩)
        go_round
        case rel => exact ⟨c + 1, by omega, by go_num, fc_next HA.out (by rw [HY.out]; exact hl)⟩
        case measure => simp [intOf]; omega
      · have HL := Lib.hid (fc_at hc0 HA.out (by rw [HY.out]; omega))
        go_wp2_with (go_at_call 70; refine (chMost_any c (by omega) (by omega) _).mono ?_; rw [hy]; clear hy; rintro e w' ⟨rfl, rfl⟩)
        go_ret
        exact ⟨ret_int (by rw [HL.out]), rfl⟩

set_option maxHeartbeats 1000000 in
theorem specFewestCuts_any (a : Int) (w : World) : Calls Try.prog 36 #[.int .i64 a] w fun e w' => e = .returned (.tuple #[.int .i64 (fcR a), .bool (fcB a)]) ∧ Below w.heap.size w w' := by
  by_cases hin : inB a 1 100000 = true
  · have hb := inB_iff.1 hin
    have HR := Lib.hid (fc_yes hin)
    go_enter Try.func36, Try.ntmps36
    go_wp2_with (first | (go_at_call 69; refine (l1In_any _ _ _ _).mono ?_; rintro e w' ⟨rfl, rfl⟩) | (go_at_call 72; refine (chFewest_any a _ hb).mono ?_; rintro e w' ⟨rfl, rfl⟩))
    go_ret2
    exact ⟨ret_ib HR.out.2.symm HR.out.1.symm, Below.refl _ _⟩
  · have hin : inB a 1 100000 = false := by simpa using hin
    have HR := Lib.hid (fc_no hin)
    go_enter Try.func36, Try.ntmps36
    go_wp2_with (go_at_call 69; refine (l1In_any _ _ _ _).mono ?_; rintro e w' ⟨rfl, rfl⟩)
    go_ret2
    exact ⟨ret_ib HR.out.2.symm HR.out.1.symm, Below.refl _ _⟩
set_option maxHeartbeats 1000000 in
theorem implFewestCuts_any (a : Int) (w : World) : Calls Try.prog 37 #[.int .i64 a] w fun e w' => e = .returned (.tuple #[.int .i64 (fcR a), .bool (fcB a)]) ∧ Below w.heap.size w w' := by
  by_cases hin : inB a 1 100000 = true
  · have hb := inB_iff.1 hin
    have HR := Lib.hid (fc_yes hin)
    have d1 : decide (a < 1) = false := by simp; omega
    clear hin
    go_enter Try.func37, Try.ntmps37
    go_wp2
    go_loop [4] (fun i => ∃ c : Nat, 0 ≤ c ∧ i = .int .i64 c ∧ ∀ j, 0 ≤ j → j < c → mostC j < a) (fun i => 1000 - (intOf i).toNat)
    case atStart => exact ⟨0, by omega, rfl, fun j h1 h2 => by omega⟩
    case round =>
      obtain ⟨c, hc0, rfl, hall⟩ := hrel
      have hc : c ≤ 12 := fc_top hb.2 hall
      obtain ⟨y, hy⟩ : ∃ y, mostC c = y := ⟨_, rfl⟩
      have HY := Lib.hid hy
      have HA := Lib.hid hall
      clear hall
      by_cases hl : y < a
      · go_wp2_with (go_at_call 71; refine (mostLinks_any c (by omega) (by omega) _).mono ?_; rw [hy]; clear hy; rintro e w' ⟨rfl, rfl⟩)
        go_round
        case rel => exact ⟨c + 1, by omega, by go_num, fc_next HA.out (by rw [HY.out]; exact hl)⟩
        case measure => simp [intOf]; omega
      · have HL := Lib.hid (fc_at hc0 HA.out (by rw [HY.out]; omega))
        go_wp2_with (go_at_call 71; refine (mostLinks_any c (by omega) (by omega) _).mono ?_; rw [hy]; clear hy; rintro e w' ⟨rfl, rfl⟩)
        go_ret2
        exact ⟨ret_ib (by rw [HR.out.2, HL.out]) HR.out.1.symm, Below.refl _ _⟩
  · have hin : inB a 1 100000 = false := by simpa using hin
    have HR := Lib.hid (fc_no hin)
    by_cases h0 : a < 1
    · have d1 : decide (a < 1) = true := by simpa using h0
      go_enter Try.func37, Try.ntmps37
      go_wp2
      go_ret2
      exact ⟨ret_ib HR.out.2.symm HR.out.1.symm, Below.refl _ _⟩
    · have d1 : decide (a < 1) = false := by simpa using h0
      have h9 : 100000 < a := by simp [inB] at hin; omega
      clear hin
      go_enter Try.func37, Try.ntmps37
      go_wp2
      go_ret2
      exact ⟨ret_ib HR.out.2.symm HR.out.1.symm, Below.refl _ _⟩

theorem fr_top {a : Int} (h : a ≤ 100000) {c : Nat} (hall : ∀ j, 1 ≤ j → j < c → mostR j < a) : c ≤ 13 := by
  apply Classical.byContradiction
  intro hc
  have := hall 13 (by omega) (by omega)
  have e : mostR 13 ≥ 100000 := by decide
  omega
theorem fr_next {a : Int} {c : Nat} (hall : ∀ j, 1 ≤ j → j < c → mostR j < a) (h : mostR c < a) : ∀ j, 1 ≤ j → j < c + 1 → mostR j < a := by
  intro j h1 h2
  by_cases e : j = c
  · subst e; exact h
  · exact hall j h1 (by omega)
theorem fr_at {a : Int} {c : Nat} (h0 : 1 ≤ c) (hall : ∀ j, 1 ≤ j → j < c → mostR j < a) (h : a ≤ mostR c) : leastC mostR 1 a = c := leastC_eq ⟨h0, h, hall⟩
noncomputable def frB (a : Int) : Bool := inB a 1 100000
noncomputable def frR (a : Int) : Int := if frB a = true then (leastC mostR 1 a : Nat) else 0
theorem fr_no {a : Int} (h : inB a 1 100000 = false) : frB a = false ∧ frR a = 0 := by
  have : frB a = false := h
  exact ⟨this, by simp [frR, this]⟩
theorem fr_yes {a : Int} (h : inB a 1 100000 = true) : frB a = true ∧ frR a = (leastC mostR 1 a : Nat) := by
  have : frB a = true := h
  exact ⟨this, by simp [frR, this]⟩

set_option maxHeartbeats 1000000 in
theorem specFewestRingCuts_any (a : Int) (w : World) : Calls Try.prog 52 #[.int .i64 a] w fun e w' => e = .returned (.tuple #[.int .i64 (frR a), .bool (frB a)]) ∧ Below w.heap.size w w' := by
  by_cases hin : inB a 1 100000 = true
  · have hb := inB_iff.1 hin
    have HR := Lib.hid (fr_yes hin)
    go_enter Try.func52, Try.ntmps52
    go_wp2_with (go_at_call 69; refine (l1In_any _ _ _ _).mono ?_; rintro e w' ⟨rfl, rfl⟩)
    clear hin
    go_loop [4] (fun i => ∃ c : Nat, 1 ≤ c ∧ i = .int .i64 c ∧ ∀ j, 1 ≤ j → j < c → mostR j < a) (fun i => 1000 - (intOf i).toNat)
    case atStart => exact ⟨1, by omega, rfl, fun j h1 h2 => by omega⟩
    case round =>
      obtain ⟨c, hc0, rfl, hall⟩ := hrel
      have hc : c ≤ 13 := fr_top hb.2 hall
      obtain ⟨y, hy⟩ : ∃ y, mostR c = y := ⟨_, rfl⟩
      have HY := Lib.hid hy
      have HA := Lib.hid hall
      clear hall
      by_cases hl : y < a
      · go_wp2_with (go_at_call 78; refine (chRing_any c (by omega) (by omega) _).mono ?_; rw [hy]; clear hy; rintro e w' ⟨rfl, rfl⟩)
        go_round
        case rel => exact ⟨c + 1, by omega, by go_num, fr_next HA.out (by rw [HY.out]; exact hl)⟩
        case measure => simp [intOf]; omega
      · have HL := Lib.hid (fr_at hc0 HA.out (by rw [HY.out]; omega))
        go_wp2_with (go_at_call 78; refine (chRing_any c (by omega) (by omega) _).mono ?_; rw [hy]; clear hy; rintro e w' ⟨rfl, rfl⟩)
        go_ret2
        exact ⟨ret_ib (by rw [HR.out.2, HL.out]) HR.out.1.symm, Below.refl _ _⟩
  · have hin : inB a 1 100000 = false := by simpa using hin
    have HR := Lib.hid (fr_no hin)
    go_enter Try.func52, Try.ntmps52
    go_wp2_with (go_at_call 69; refine (l1In_any _ _ _ _).mono ?_; rintro e w' ⟨rfl, rfl⟩)
    go_ret2
    exact ⟨ret_ib HR.out.2.symm HR.out.1.symm, Below.refl _ _⟩
set_option maxHeartbeats 1000000 in
theorem implFewestRingCuts_any (a : Int) (w : World) : Calls Try.prog 53 #[.int .i64 a] w fun e w' => e = .returned (.tuple #[.int .i64 (frR a), .bool (frB a)]) ∧ Below w.heap.size w w' := by
  by_cases hin : inB a 1 100000 = true
  · have hb := inB_iff.1 hin
    have HR := Lib.hid (fr_yes hin)
    have d1 : decide (a < 1) = false := by simp; omega
    clear hin
    go_enter Try.func53, Try.ntmps53
    go_wp2
    go_loop [4] (fun i => ∃ c : Nat, 1 ≤ c ∧ i = .int .i64 c ∧ ∀ j, 1 ≤ j → j < c → mostR j < a) (fun i => 1000 - (intOf i).toNat)
    case atStart => exact ⟨1, by omega, rfl, fun j h1 h2 => by omega⟩
    case round =>
      obtain ⟨c, hc0, rfl, hall⟩ := hrel
      have hc : c ≤ 13 := fr_top hb.2 hall
      obtain ⟨y, hy⟩ : ∃ y, mostR c = y := ⟨_, rfl⟩
      have HY := Lib.hid hy
      have HA := Lib.hid hall
      clear hall
      by_cases hl : y < a
      · go_wp2_with (go_at_call 79; refine (mostRing_any c (by omega) (by omega) _).mono ?_; rw [hy]; clear hy; rintro e w' ⟨rfl, rfl⟩)
        go_round
        case rel => exact ⟨c + 1, by omega, by go_num, fr_next HA.out (by rw [HY.out]; exact hl)⟩
        case measure => simp [intOf]; omega
      · have HL := Lib.hid (fr_at hc0 HA.out (by rw [HY.out]; omega))
        go_wp2_with (go_at_call 79; refine (mostRing_any c (by omega) (by omega) _).mono ?_; rw [hy]; clear hy; rintro e w' ⟨rfl, rfl⟩)
        go_ret2
        exact ⟨ret_ib (by rw [HR.out.2, HL.out]) HR.out.1.symm, Below.refl _ _⟩
  · have hin : inB a 1 100000 = false := by simpa using hin
    have HR := Lib.hid (fr_no hin)
    by_cases h0 : a < 1
    · have d1 : decide (a < 1) = true := by simpa using h0
      go_enter Try.func53, Try.ntmps53
      go_wp2
      go_ret2
      exact ⟨ret_ib HR.out.2.symm HR.out.1.symm, Below.refl _ _⟩
    · have d1 : decide (a < 1) = false := by simpa using h0
      have h9 : 100000 < a := by simp [inB] at hin; omega
      clear hin
      go_enter Try.func53, Try.ntmps53
      go_wp2
      go_ret2
      exact ⟨ret_ib HR.out.2.symm HR.out.1.symm, Below.refl _ _⟩

set_option maxHeartbeats 2000000 in
theorem lawMostLinks (a1 : Int) (w : World) :
    Calls Try.prog 8 #[.int .i64 a1] w fun e w' => e = .returned (.bool true) ∧ Below w.heap.size w w' := by
  go_enter Try.func8, Try.ntmps8
  go_wp2_with fail
  refine (specMostLinks_any _ _).mono ?_
  rintro e w1 ⟨rfl, b1⟩
  go_wp2_with fail
  refine (implMostLinks_any _ _).mono ?_
  rintro e w2 ⟨rfl, b2⟩
  have b2 := nxt b1 b2
  clear b1
  go_wp2_with fail
  go_ret
  exact ⟨rfl, b2⟩

set_option maxHeartbeats 2000000 in
theorem lawMostRing (a1 : Int) (w : World) :
    Calls Try.prog 16 #[.int .i64 a1] w fun e w' => e = .returned (.bool true) ∧ Below w.heap.size w w' := by
  go_enter Try.func16, Try.ntmps16
  go_wp2_with fail
  refine (specMostRing_any _ _).mono ?_
  rintro e w1 ⟨rfl, b1⟩
  go_wp2_with fail
  refine (implMostRing_any _ _).mono ?_
  rintro e w2 ⟨rfl, b2⟩
  have b2 := nxt b1 b2
  clear b1
  go_wp2_with fail
  go_ret
  exact ⟨rfl, b2⟩

set_option maxHeartbeats 2000000 in
theorem lawFewestCuts (a1 : Int) (w : World) :
    Calls Try.prog 9 #[.int .i64 a1] w fun e w' => e = .returned (.bool true) ∧ Below w.heap.size w w' := by
  go_enter Try.func9, Try.ntmps9
  go_wp2_with fail
  refine (specFewestCuts_any _ _).mono ?_
  rintro e w1 ⟨rfl, b1⟩
  go_wp2_with fail
  refine (implFewestCuts_any _ _).mono ?_
  rintro e w2 ⟨rfl, b2⟩
  have b2 := nxt b1 b2
  clear b1
  go_wp2_with fail
  go_ret
  exact ⟨rfl, b2⟩

set_option maxHeartbeats 2000000 in
theorem lawFewestRingCuts (a1 : Int) (w : World) :
    Calls Try.prog 17 #[.int .i64 a1] w fun e w' => e = .returned (.bool true) ∧ Below w.heap.size w w' := by
  go_enter Try.func17, Try.ntmps17
  go_wp2_with fail
  refine (specFewestRingCuts_any _ _).mono ?_
  rintro e w1 ⟨rfl, b1⟩
  go_wp2_with fail
  refine (implFewestRingCuts_any _ _).mono ?_
  rintro e w2 ⟨rfl, b2⟩
  have b2 := nxt b1 b2
  clear b1
  go_wp2_with fail
  go_ret
  exact ⟨rfl, b2⟩

end Go.Proofs.Ytnbbfpanidmpgaa
