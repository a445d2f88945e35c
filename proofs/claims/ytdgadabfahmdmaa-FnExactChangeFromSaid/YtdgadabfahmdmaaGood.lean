/-
  Whether numbers are pieces: the model's test and the program's test answer alike, by their contracts. Condition: slices of at most 2^40 numbers.
-/
import Derived.Test.YtdgadabfahmdmaaPure
import Derived.Test.YtdgadabfahmdmaaBase
namespace Go.Proofs.Ytdgadabfahmdmaa
open Go.RowKit

theorem ret_bool {a b : Bool} (h : a = b) : Ending.returned (.bool a) = .returned (.bool b) := by rw [h]
theorem ret_int {k : IntKind} {a b : Int} (h : a = b) : Ending.returned (.int k a) = .returned (.int k b) := by rw [h]

def inB (n lo hi : Int) : Bool := decide (lo ≤ n) && decide (n ≤ hi)
def allB (xs : List Int) (lo hi : Int) : Bool := decide (∀ j, j < xs.length → inB (xs.getD j 0) lo hi = true)
def AllTo (xs : List Int) (lo hi : Int) (k : Nat) : Prop := ∀ j, j < k → inB (xs.getD j 0) lo hi = true
def UpTo (xs : List Int) (k : Nat) : Prop := ∀ j, j + 1 < k → xs.getD j 0 ≤ xs.getD (j + 1) 0
/-- .. told from the other end. -/
def DownTo (xs : List Int) (k : Nat) : Prop := ∀ j, k ≤ j → j + 1 < xs.length → xs.getD j 0 ≤ xs.getD (j + 1) 0
noncomputable def goodB (xs : List Int) : Bool := @decide (Good xs) (Classical.propDecidable _)
noncomputable def sortedB (xs : List Int) : Bool := @decide (UpTo xs xs.length) (Classical.propDecidable _)

theorem goodB_yes {xs : List Int} (h : Good xs) : goodB xs = true := by simp [goodB, h]
theorem goodB_no {xs : List Int} (h : ¬ Good xs) : goodB xs = false := by simp [goodB, h]
theorem goodB_iff {xs : List Int} : goodB xs = true ↔ Good xs := by simp [goodB]
theorem inB_iff {n lo hi : Int} : inB n lo hi = true ↔ lo ≤ n ∧ n ≤ hi := by simp [inB]
theorem allB_yes {xs : List Int} {lo hi : Int} (h : AllTo xs lo hi xs.length) : allB xs lo hi = true := by
  simp only [allB, decide_eq_true_eq]; exact h
theorem allB_no {xs : List Int} {lo hi : Int} {k : Nat} (hk : k < xs.length) (h : inB (xs.getD k 0) lo hi = false) : allB xs lo hi = false := by
  simp only [allB, decide_eq_false_iff_not]; intro h2; rw [h2 k hk] at h; cases h
theorem AllTo.succ {xs : List Int} {lo hi : Int} {k : Nat} (h : AllTo xs lo hi k) (hk : inB (xs.getD k 0) lo hi = true) : AllTo xs lo hi (k + 1) := by
  intro j hj
  by_cases e : j = k
  · subst e; exact hk
  · exact h j (by omega)
theorem UpTo.succ {xs : List Int} {k : Nat} (h : UpTo xs (k + 1)) (hk : xs.getD k 0 ≤ xs.getD (k + 1) 0) : UpTo xs (k + 2) := by
  intro j hj
  by_cases e : j = k
  · subst e; exact hk
  · exact h j (by omega)
theorem good_of {xs : List Int} (h1 : xs.length ≤ 20) (h2 : allB xs 1 10000 = true) (h3 : UpTo xs xs.length) : Good xs := by
  simp only [allB, decide_eq_true_eq] at h2
  exact ⟨h1, fun j hj => inB_iff.1 (h2 j hj), h3⟩
theorem good_no_long {xs : List Int} (h : ¬ xs.length ≤ 20) : goodB xs = false := goodB_no fun g => h g.1
theorem good_no_all {xs : List Int} (h : allB xs 1 10000 = false) : goodB xs = false := goodB_no fun g => by
  simp only [allB, decide_eq_false_iff_not] at h
  exact h fun j hj => inB_iff.2 (g.2.1 j hj)
theorem good_no_step {xs : List Int} (k : Nat) (hk : k + 1 < xs.length) (h : xs.getD (k + 1) 0 < xs.getD k 0) : goodB xs = false := goodB_no fun g => by
  have := g.2.2 k hk; omega
theorem sortedB_no {xs : List Int} (k : Nat) (hk : k + 1 < xs.length) (h : xs.getD (k + 1) 0 < xs.getD k 0) : sortedB xs = false := by
  simp only [sortedB, decide_eq_false_iff_not]; intro g; have := g k hk; omega
theorem sortedB_yes {xs : List Int} (h : DownTo xs 0) : sortedB xs = true := by
  simp only [sortedB, decide_eq_true_eq]; exact fun j hj => h j (Nat.zero_le _) hj
theorem DownTo.step {xs : List Int} {k : Nat} (h : DownTo xs (k + 1)) (hk : xs.getD k 0 ≤ xs.getD (k + 1) 0) : DownTo xs k := by
  intro j hj hl
  by_cases e : j = k
  · subst e; exact hk
  · exact h j (by omega) hl
theorem goodB_of (xs : List Int) (h1 : xs.length ≤ 20) (h2 : AllTo xs 1 10000 xs.length) : goodB xs = sortedB xs := by
  by_cases h : UpTo xs xs.length
  · rw [goodB_yes (good_of h1 (allB_yes h2) h)]; simp [sortedB, h]
  · rw [goodB_no fun g => h g.2.2]; simp [sortedB, h]

theorem l1In_any (n lo hi : Int) (w : World) : Calls Try.prog 70 #[.int .i64 n, .int .i64 lo, .int .i64 hi] w fun e w' => e = .returned (.bool (inB n lo hi)) ∧ w = w' := by
  by_cases h : lo ≤ n
  · have h1 : decide (lo ≤ n) = true := by simpa using h
    go_enter Try.func70, Try.ntmps70
    go_wp2
    go_ret
    exact ⟨by simp [inB, h], rfl⟩
  · have h1 : decide (lo ≤ n) = false := by simpa using h
    go_enter Try.func70, Try.ntmps70
    go_wp2
    go_ret
    exact ⟨ret_bool (by simp [inB]; omega), rfl⟩

set_option maxHeartbeats 1000000 in
theorem l1All_any (v : Value) (xs : List Int) (lo hi : Int) (w : World) (h : Sv w v xs) (hl : xs.length ≤ 1099511627776) :
    Calls Try.prog 89 #[v, .int .i64 lo, .int .i64 hi] w fun e w' => e = .returned (.bool (allB xs lo hi)) ∧ w = w' := by
  obtain ⟨p, cap, rfl, hx⟩ := h
  go_enter Try.func89, Try.ntmps89
  go_wp2
  go_loop [11] (fun i => ∃ k : Nat, k ≤ xs.length ∧ i = .int .i64 k ∧ AllTo xs lo hi k) (fun i => xs.length - (intOf i).toNat)
  case atStart => exact ⟨0, Nat.zero_le _, rfl, fun j hj => by omega⟩
  case round =>
    obtain ⟨k, hk, rfl, ha⟩ := hrel
    by_cases hlt : k < xs.length
    · obtain ⟨b, off, rfl, hbl, hc⟩ := hx (by omega)
      have hcell := hc k hlt
      obtain ⟨x, ex⟩ : ∃ x, xs.getD k 0 = x := ⟨_, rfl⟩
      rw [ex] at hcell
      have EX := Lib.hid ex
      clear hc hx ex
      by_cases hin : inB x lo hi = true
      · go_wp2_with (go_at_call 70; refine (l1In_any _ _ _ _).mono ?_; rintro e w' ⟨rfl, rfl⟩)
        go_round
        case rel => exact ⟨k + 1, by omega, by go_num, ha.succ (by rw [EX.out]; exact hin)⟩
        case measure => simp [intOf]; omega
      · have hin : inB x lo hi = false := by simpa using hin
        go_wp2_with (go_at_call 70; refine (l1In_any _ _ _ _).mono ?_; rintro e w' ⟨rfl, rfl⟩)
        go_ret
        exact ⟨ret_bool (allB_no hlt (by rw [EX.out]; exact hin)).symm, rfl⟩
    · clear hx
      go_wp2
      go_ret
      have : k = xs.length := by omega
      subst this
      exact ⟨ret_bool (allB_yes ha).symm, rfl⟩

end Go.Proofs.Ytdgadabfahmdmaa
