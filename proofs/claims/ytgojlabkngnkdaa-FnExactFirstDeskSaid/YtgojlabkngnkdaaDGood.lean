/-
  Whether numbers are pieces: the model's test and the program's test answer alike, by their contracts. Condition: slices of at most 2^40 numbers.
-/
import Derived.Test.YtgojlabkngnkdaaDPure
import Derived.Test.YtgojlabkngnkdaaDBase
namespace Go.Proofs.Ytgojlabkngnkdaa
open Go.RowKit

theorem ret_bool {a b : Bool} (h : a = b) : Ending.returned (.bool a) = .returned (.bool b) := by rw [h]
theorem ret_int {k : IntKind} {a b : Int} (h : a = b) : Ending.returned (.int k a) = .returned (.int k b) := by rw [h]

def inB (n lo hi : Int) : Bool := decide (lo ≤ n) && decide (n ≤ hi)
def allB (xs : List Int) (lo hi : Int) : Bool := decide (∀ j, j < xs.length → inB (xs.getD j 0) lo hi = true)
def AllTo (xs : List Int) (lo hi : Int) (k : Nat) : Prop := ∀ j, j < k → inB (xs.getD j 0) lo hi = true
def UpTo (xs : List Int) (k : Nat) : Prop := ∀ j, j + 1 < k → xs.getD j 0 ≤ xs.getD (j + 1) 0
/-- .. told from the other end. -/
def DownTo (xs : List Int) (k : Nat) : Prop := ∀ j, k ≤ j → j + 1 < xs.length → xs.getD j 0 ≤ xs.getD (j + 1) 0
noncomputable def goodB (xs : List Int) : Bool := @decide (Good xs) (Classical.propDecidable _)
noncomputable def sortedB (xs : List Int) : Bool := @decide (UpTo xs xs.length) (Classical.propDecidable _)

theorem goodB_yes {xs : List Int} (h : Good xs) : goodB xs = true := by simp [goodB, h]
theorem goodB_no {xs : List Int} (h : ¬ Good xs) : goodB xs = false := by simp [goodB, h]
theorem inB_iff {n lo hi : Int} : inB n lo hi = true ↔ lo ≤ n ∧ n ≤ hi := by simp [inB]
theorem allB_yes {xs : List Int} {lo hi : Int} (h : AllTo xs lo hi xs.length) : allB xs lo hi = true := by
  simp only [allB, decide_eq_true_eq]; exact h
theorem allB_no {xs : List Int} {lo hi : Int} {k : Nat} (hk : k < xs.length) (h : inB (xs.getD k 0) lo hi = false) : allB xs lo hi = false := by
  simp only [allB, decide_eq_false_iff_not]; intro h2; rw [h2 k hk] at h; cases h
theorem AllTo.succ {xs : List Int} {lo hi : Int} {k : Nat} (h : AllTo xs lo hi k) (hk : inB (xs.getD k 0) lo hi = true) : AllTo xs lo hi (k + 1) := by
  intro j hj
  by_cases e : j = k
  · subst e; exact hk
  · exact h j (by omega)
theorem UpTo.succ {xs : List Int} {k : Nat} (h : UpTo xs (k + 1)) (hk : xs.getD k 0 ≤ xs.getD (k + 1) 0) : UpTo xs (k + 2) := by
  intro j hj
  by_cases e : j = k
  · subst e; exact hk
  · exact h j (by omega)
theorem good_of {xs : List Int} (h1 : xs.length ≤ 20) (h2 : allB xs 1 10000 = true) (h3 : UpTo xs xs.length) : Good xs := by
  simp only [allB, decide_eq_true_eq] at h2
  exact ⟨h1, fun j hj => inB_iff.1 (h2 j hj), h3⟩
theorem good_no_long {xs : List Int} (h : ¬ xs.length ≤ 20) : goodB xs = false := goodB_no fun g => h g.1
theorem good_no_all {xs : List Int} (h : allB xs 1 10000 = false) : goodB xs = false := goodB_no fun g => by
  simp only [allB, decide_eq_false_iff_not] at h
  exact h fun j hj => inB_iff.2 (g.2.1 j hj)
theorem good_no_step {xs : List Int} (k : Nat) (hk : k + 1 < xs.length) (h : xs.getD (k + 1) 0 < xs.getD k 0) : goodB xs = false := goodB_no fun g => by
  have := g.2.2 k hk; omega
theorem sortedB_no {xs : List Int} (k : Nat) (hk : k + 1 < xs.length) (h : xs.getD (k + 1) 0 < xs.getD k 0) : sortedB xs = false := by
  simp only [sortedB, decide_eq_false_iff_not]; intro g; have := g k hk; omega
theorem sortedB_yes {xs : List Int} (h : DownTo xs 0) : sortedB xs = true := by
  simp only [sortedB, decide_eq_true_eq]; exact fun j hj => h j (Nat.zero_le _) hj
theorem DownTo.step {xs : List Int} {k : Nat} (h : DownTo xs (k + 1)) (hk : xs.getD k 0 ≤ xs.getD (k + 1) 0) : DownTo xs k := by
  intro j hj hl
  by_cases e : j = k
  · subst e; exact hk
  · exact h j (by omega) hl
theorem goodB_of (xs : List Int) (h1 : xs.length ≤ 20) (h2 : AllTo xs 1 10000 xs.length) : goodB xs = sortedB xs := by
  by_cases h : UpTo xs xs.length
  · rw [goodB_yes (good_of h1 (allB_yes h2) h)]; simp [sortedB, h]
  · rw [goodB_no fun g => h g.2.2]; simp [sortedB, h]

theorem l1In_any (n lo hi : Int) (w : World) : Calls Try.prog 37 #[.int .i64 n, .int .i64 lo, .int .i64 hi] w fun e w' => e = .returned (.bool (inB n lo hi)) ∧ w = w' := by
  by_cases h : lo ≤ n
  · have h1 : decide (lo ≤ n) = true := by simpa using h
    go_enter Try.func37, Try.ntmps37
    go_wp2
    go_ret
    exact ⟨by simp [inB, h], rfl⟩
  · have h1 : decide (lo ≤ n) = false := by simpa using h
    go_enter Try.func37, Try.ntmps37
    go_wp2
    go_ret
    exact ⟨ret_bool (by simp [inB]; omega), rfl⟩

theorem isPiece_any (n : Int) (w : World) : Calls Try.prog 59 #[.int .i64 n] w fun e w' => e = .returned (.bool (inB n 1 10000)) ∧ w = w' := by
  by_cases h : 1 ≤ n
  · have h1 : decide (1 ≤ n) = true := by simpa using h
    go_enter Try.func59, Try.ntmps59
    go_wp2
    go_ret
    exact ⟨by simp [inB, h], rfl⟩
  · have h1 : decide (1 ≤ n) = false := by simpa using h
    go_enter Try.func59, Try.ntmps59
    go_wp2
    go_ret
    exact ⟨ret_bool (by simp [inB]; omega), rfl⟩

theorem less_any (x y : Int) (w : World) : Calls Try.prog 69 #[.int .i64 x, .int .i64 y] w fun e w' => e = .returned (.bool (decide (x < y))) ∧ w = w' := by
  go_enter Try.func69, Try.ntmps69
  go_wp2
  go_ret
  exact ⟨rfl, rfl⟩

set_option maxHeartbeats 1000000 in
theorem l1All_any (v : Value) (xs : List Int) (lo hi : Int) (w : World) (h : Sv w v xs) (hl : xs.length ≤ 1099511627776) :
    Calls Try.prog 67 #[v, .int .i64 lo, .int .i64 hi] w fun e w' => e = .returned (.bool (allB xs lo hi)) ∧ w = w' := by
  obtain ⟨p, cap, rfl, hx⟩ := h
  go_enter Try.func67, Try.ntmps67
  go_wp2
  go_loop [11] (fun i => ∃ k : Nat, k ≤ xs.length ∧ i = .int .i64 k ∧ AllTo xs lo hi k) (fun i => xs.length - (intOf i).toNat)
  case atStart => exact ⟨0, Nat.zero_le _, rfl, fun j hj => by omega⟩
  case round =>
    obtain ⟨k, hk, rfl, ha⟩ := hrel
    by_cases hlt : k < xs.length
    · obtain ⟨b, off, rfl, hbl, hc⟩ := hx (by omega)
      have hcell := hc k hlt
      obtain ⟨x, ex⟩ : ∃ x, xs.getD k 0 = x := ⟨_, rfl⟩
      rw [ex] at hcell
      have EX := Lib.hid ex
      clear hc hx ex
      by_cases hin : inB x lo hi = true
      · go_wp2_with (go_at_call 37; refine (l1In_any _ _ _ _).mono ?_; rintro e w' ⟨rfl, rfl⟩)
        go_round
        case rel => exact ⟨k + 1, by omega, by go_num, ha.succ (by rw [EX.out]; exact hin)⟩
        case measure => simp [intOf]; omega
      · have hin : inB x lo hi = false := by simpa using hin
        go_wp2_with (go_at_call 37; refine (l1In_any _ _ _ _).mono ?_; rintro e w' ⟨rfl, rfl⟩)
        go_ret
        exact ⟨ret_bool (allB_no hlt (by rw [EX.out]; exact hin)).symm, rfl⟩
    · clear hx
      go_wp2
      go_ret
      have : k = xs.length := by omega
      subst this
      exact ⟨ret_bool (allB_yes ha).symm, rfl⟩

set_option maxHeartbeats 1000000 in
theorem piGood_any (v : Value) (xs : List Int) (w : World) (h : Sv w v xs) (hl : xs.length ≤ 1099511627776) :
    Calls Try.prog 57 #[v] w fun e w' => e = .returned (.bool (goodB xs)) ∧ Below w.heap.size w w' := by
  have hs := h
  obtain ⟨p, cap, rfl, hx⟩ := h
  by_cases h20 : xs.length ≤ 20
  · have d20 : decide ((20 : Int) < (xs.length : Int)) = false := by simp; omega
    by_cases hall : allB xs 1 10000 = true
    · go_enter Try.func57, Try.ntmps57
      go_wp2_with (go_at_call 67; refine (l1All_any _ _ _ _ _ hs hl).mono ?_; rintro e w' ⟨rfl, rfl⟩)
      go_loopw [3] (fun i wr => ∃ k : Nat, (k ≤ xs.length ∨ k = 1) ∧ 1 ≤ k ∧ i = .int .i64 k ∧ UpTo xs k ∧ Below w.heap.size w wr) (fun i _ => xs.length - (intOf i).toNat)
      case atStart => exact ⟨1, .inr rfl, by omega, rfl, fun j hj => by omega, Below.refl _ _⟩
      case round =>
        obtain ⟨k, hk, hk1, rfl, ha, hb⟩ := hrel
        by_cases hlt : k < xs.length
        · obtain ⟨b, off, rfl, hbl, hc⟩ := hx (by omega)
          obtain ⟨m, rfl⟩ : ∃ m, k = m + 1 := ⟨k - 1, by omega⟩
          have c1 : wr.cell? ⟨b, off + m, none⟩ = some (.int .i64 (xs.getD m 0)) := (hb.cell (p := ⟨b, off + m, none⟩) hbl).trans (hc m (by omega))
          have c2 : wr.cell? ⟨b, off + (m + 1), none⟩ = some (.int .i64 (xs.getD (m + 1) 0)) := (hb.cell (p := ⟨b, off + (m + 1), none⟩) hbl).trans (hc (m + 1) (by omega))
          obtain ⟨x, ex⟩ : ∃ x, xs.getD m 0 = x := ⟨_, rfl⟩
          obtain ⟨y, ey⟩ : ∃ y, xs.getD (m + 1) 0 = y := ⟨_, rfl⟩
          rw [ex] at c1
          rw [ey] at c2
          have EX := Lib.hid ex
          have EY := Lib.hid ey
          clear hc hx ex ey hk hs hall
          have hi0 : (0 : Int) ≤ m := by omega
          have hi1 : (m : Int) < xs.length := by omega
          have hi2 : (m : Int) + 1 < xs.length := by omega
          have hi3 : (0 : Int) ≤ (m : Int) + 1 := by omega
          by_cases hxy : y < x
          · go_wp2
            go_quiet (fail)
            go_wp2
            go_ret
            exact ⟨ret_bool (good_no_step m (by omega) (by rw [EX.out, EY.out]; exact hxy)).symm, below_drewN hb _⟩
          · go_wp2
            go_quiet (fail)
            go_wp2
            go_roundw
            case rel => exact ⟨m + 2, by omega, by omega, by go_num, ha.succ (by rw [EX.out, EY.out]; omega), below_drewN hb _⟩
            case measure => simp [intOf]; omega
        · clear hx
          go_wp2
          go_ret
          refine ⟨ret_bool (goodB_yes (good_of h20 hall fun j hj => ?_)).symm, hb⟩
          exact ha j (by omega)
    · have hall : allB xs 1 10000 = false := by simpa using hall
      go_enter Try.func57, Try.ntmps57
      go_wp2_with (go_at_call 67; refine (l1All_any _ _ _ _ _ hs hl).mono ?_; rintro e w' ⟨rfl, rfl⟩)
      go_ret
      exact ⟨ret_bool (good_no_all hall).symm, Below.refl _ _⟩
  · have d20 : decide ((20 : Int) < (xs.length : Int)) = true := by simp; omega
    go_enter Try.func57, Try.ntmps57
    go_wp2_with fail
    go_ret
    exact ⟨ret_bool (good_no_long h20).symm, Below.refl _ _⟩

set_option maxHeartbeats 1000000 in
theorem isSorted_any (v : Value) (xs : List Int) (w : World) (h : Sv w v xs) (hl : xs.length ≤ 1099511627776) :
    Calls Try.prog 60 #[v] w fun e w' => e = .returned (.bool (sortedB xs)) ∧ Below w.heap.size w w' := by
  obtain ⟨p, cap, rfl, hx⟩ := h
  go_enter Try.func60, Try.ntmps60
  go_wp2
  go_loopw [3] (fun i wr => ∃ k : Int, -1 ≤ k ∧ k < xs.length ∧ i = .int .i64 k ∧ DownTo xs k.toNat ∧ Below w.heap.size w wr) (fun i _ => (intOf i).toNat)
  case atStart => exact ⟨_, by omega, by omega, rfl, fun j hj hl => by omega, Below.refl _ _⟩
  case round =>
    obtain ⟨k, hk1, hk2, rfl, ha, hb⟩ := hrel
    by_cases hlt : 0 < k
    · obtain ⟨b, off, rfl, hbl, hc⟩ := hx (by omega)
      obtain ⟨m, rfl⟩ : ∃ m : Nat, k = (m : Int) + 1 := ⟨(k - 1).toNat, by omega⟩
      have c1 : wr.cell? ⟨b, off + m, none⟩ = some (.int .i64 (xs.getD m 0)) := (hb.cell (p := ⟨b, off + m, none⟩) hbl).trans (hc m (by omega))
      have c2 : wr.cell? ⟨b, off + (m + 1), none⟩ = some (.int .i64 (xs.getD (m + 1) 0)) := (hb.cell (p := ⟨b, off + (m + 1), none⟩) hbl).trans (hc (m + 1) (by omega))
      obtain ⟨x, ex⟩ : ∃ x, xs.getD m 0 = x := ⟨_, rfl⟩
      obtain ⟨y, ey⟩ : ∃ y, xs.getD (m + 1) 0 = y := ⟨_, rfl⟩
      rw [ex] at c1
      rw [ey] at c2
      have EX := Lib.hid ex
      have EY := Lib.hid ey
      have hi0 : (0 : Int) ≤ m := by omega
      have hi1 : (m : Int) < xs.length := by omega
      have hi3 : (0 : Int) ≤ (m : Int) + 1 := by omega
      clear hc hx ex ey
      by_cases hxy : y < x
      · have hd : decide (y < x) = true := by simpa using hxy
        go_wp2
        go_quiet ((go_at_call 69; exact Calls.quiet_of_same ((less_any _ _ _).mono fun _ _ h => ⟨h.1, h.2.symm⟩)))
        go_wp2
        go_ret
        exact ⟨ret_bool (sortedB_no m (by omega) (by rw [EX.out, EY.out]; exact hxy)).symm, below_drewN hb _⟩
      · have hd : decide (y < x) = false := by simpa using hxy
        go_wp2
        go_quiet ((go_at_call 69; exact Calls.quiet_of_same ((less_any _ _ _).mono fun _ _ h => ⟨h.1, h.2.symm⟩)))
        go_wp2
        go_roundw
        case rel =>
          have e : ((m : Int) + 1).toNat = m + 1 := by omega
          rw [e] at ha
          exact ⟨m, by omega, by omega, by go_num, by rw [Int.toNat_natCast]; exact DownTo.step ha (by rw [EX.out, EY.out]; exact hxy), below_drewN hb _⟩
        case measure => simp only [intOf]; omega
    · clear hx
      go_wp2
      go_ret
      refine ⟨ret_bool (sortedB_yes ?_).symm, hb⟩
      have : k.toNat = 0 := by omega
      rw [this] at ha
      exact ha

set_option maxHeartbeats 1000000 in
theorem arePieces_any (v : Value) (xs : List Int) (w : World) (h : Sv w v xs) (hl : xs.length ≤ 1099511627776) :
    Calls Try.prog 35 #[v] w fun e w' => e = .returned (.bool (goodB xs)) ∧ Below w.heap.size w w' := by
  have hs := h
  obtain ⟨p, cap, rfl, hx⟩ := h
  by_cases h20 : xs.length ≤ 20
  · go_enter Try.func35, Try.ntmps35
    go_wp2
    go_loop [10] (fun i => ∃ k : Nat, k ≤ xs.length ∧ i = .int .i64 k ∧ AllTo xs 1 10000 k) (fun i => xs.length - (intOf i).toNat)
    case atStart => exact ⟨0, Nat.zero_le _, rfl, fun j hj => by omega⟩
    case round =>
      obtain ⟨k, hk, rfl, ha⟩ := hrel
      by_cases hlt : k < xs.length
      · obtain ⟨b, off, rfl, hbl, hc⟩ := hx (by omega)
        have hcell := hc k hlt
        obtain ⟨x, ex⟩ : ∃ x, xs.getD k 0 = x := ⟨_, rfl⟩
        rw [ex] at hcell
        have EX := Lib.hid ex
        clear hc hx ex
        by_cases hin : inB x 1 10000 = true
        · go_wp2_with (go_at_call 59; refine (isPiece_any _ _).mono ?_; rintro e w' ⟨rfl, rfl⟩)
          go_round
          case rel => exact ⟨k + 1, by omega, by go_num, ha.succ (by rw [EX.out]; exact hin)⟩
          case measure => simp [intOf]; omega
        · have hin : inB x 1 10000 = false := by simpa using hin
          go_wp2_with (go_at_call 59; refine (isPiece_any _ _).mono ?_; rintro e w' ⟨rfl, rfl⟩)
          go_ret
          exact ⟨ret_bool (good_no_all (allB_no hlt (by rw [EX.out]; exact hin))).symm, Below.refl _ _⟩
      · clear hx
        have e1 : goodB xs = sortedB xs := goodB_of xs h20 (by have : k = xs.length := by omega
                                                               subst this; exact ha)
        have E1 := Lib.hid e1
        clear e1
        go_wp2_with (go_at_call 60; refine (isSorted_any _ _ _ hs hl).mono ?_; rintro e w' ⟨rfl, hb⟩)
        go_ret
        exact ⟨ret_bool E1.out.symm, hb⟩
  · go_enter Try.func35, Try.ntmps35
    go_wp2
    go_ret
    exact ⟨ret_bool (good_no_long h20).symm, Below.refl _ _⟩

end Go.Proofs.Ytgojlabkngnkdaa
