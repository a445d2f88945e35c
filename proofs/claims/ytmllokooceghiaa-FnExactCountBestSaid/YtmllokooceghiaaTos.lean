/-
  One set more, in the program's search for the best sets, by its contract. Condition: counts that are small.
-/
import Derived.Test.YtmllokooceghiaaTnx
namespace Go.Proofs.Ytmllokooceghiaa
open Go.RowKit

/-- What is told of the best sets, as it lies. -/
def b3 (f : Int) (p : Option Addr) (n c : Nat) (k : Int) : Value := .agg #[.int .i64 f, .slice p n c, .int .i64 k]

set_option maxHeartbeats 2000000 in
theorem orSet_gt (f k x : Int) (p q : Option Addr) (n c m d : Nat) (w : World) (h : f < x) :
    Calls Try.prog 72 #[b3 f p n c k, .slice q m d, .int .i64 x] w fun e w' => e = .returned (b3 x q m d 1) ∧ Below w.heap.size w w' := by
  unfold b3
  go_enter Try.func72, Try.ntmps72
  go_wp2
  exact bodyPost_ret (v := b3 x q m d 1) (by simp [results, Try.results72, go_sem, b3]) rfl ⟨rfl, ((Below.refl _ _).alloc (Nat.le_refl _) _).alloc (by simp) _⟩
set_option maxHeartbeats 2000000 in
theorem orSet_eq (f k : Int) (p q : Option Addr) (n c m d : Nat) (w : World) (hk : 0 ≤ k) (hk2 : k ≤ 1073741824) :
    Calls Try.prog 72 #[b3 f p n c k, .slice q m d, .int .i64 f] w fun e w' => e = .returned (b3 f p n c (k + 1)) ∧ Below w.heap.size w w' := by
  have d0 : decide (f < f) = false := by simp
  unfold b3
  go_enter Try.func72, Try.ntmps72
  go_wp2
  exact bodyPost_ret (v := b3 f p n c (k + 1)) (by simp [results, Try.results72, go_sem, b3]) rfl ⟨rfl, ((Below.refl _ _).alloc (Nat.le_refl _) _).alloc (by simp) _⟩
set_option maxHeartbeats 2000000 in
theorem orSet_lt (f k x : Int) (p q : Option Addr) (n c m d : Nat) (w : World) (h : x < f) :
    Calls Try.prog 72 #[b3 f p n c k, .slice q m d, .int .i64 x] w fun e w' => e = .returned (b3 f p n c k) ∧ Below w.heap.size w w' := by
  have d0 : decide (f < x) = false := by simp; omega
  have d1 : (x == f) = false := by rw [beq_eq_false_iff_ne]; omega
  unfold b3
  go_enter Try.func72, Try.ntmps72
  go_wp2
  exact bodyPost_ret (v := b3 f p n c k) (by simp [results, Try.results72, go_sem, b3]) rfl ⟨rfl, ((Below.refl _ _).alloc (Nat.le_refl _) _).alloc (by simp) _⟩
/-- .. all three: the fold's step. -/
theorem orSet_any (a : BsR) (x : List Int) (X : Nat) (p q : Option Addr) (n c m d : Nat) (w : World) (h0 : 0 ≤ a.2.2) (h1 : a.2.2 ≤ 1073741824) :
    Calls Try.prog 72 #[b3 a.2.1 p n c a.2.2, .slice q m d, .int .i64 (X : Int)] w fun e w' => ∃ p' n' c', e = .returned (b3 (bsS a (x, (X : Int), 1)).2.1 p' n' c' (bsS a (x, (X : Int), 1)).2.2) ∧
      (((bsS a (x, (X : Int), 1)).1 = a.1 ∧ p' = p ∧ n' = n ∧ c' = c) ∨ ((bsS a (x, (X : Int), 1)).1 = x ∧ p' = q ∧ n' = m ∧ c' = d)) ∧ Below w.heap.size w w' := by
  rcases Int.lt_trichotomy a.2.1 (X : Int) with h | h | h
  · rw [bsS_lt (f := (x, (X : Int), 1)) h]
    refine (orSet_gt _ _ _ p q n c m d w h).mono ?_
    rintro e w' ⟨rfl, hb⟩
    exact ⟨q, m, d, rfl, .inr ⟨rfl, rfl, rfl, rfl⟩, hb⟩
  · rw [bsS_eq (f := (x, (X : Int), 1)) h.symm, ← h]
    refine (orSet_eq _ _ p q n c m d w h0 h1).mono ?_
    rintro e w' ⟨rfl, hb⟩
    exact ⟨p, n, c, rfl, .inl ⟨rfl, rfl, rfl, rfl⟩, hb⟩
  · rw [bsS_gt (f := (x, (X : Int), 1)) h]
    refine (orSet_lt _ _ _ p q n c m d w h).mono ?_
    rintro e w' ⟨rfl, hb⟩
    exact ⟨p, n, c, rfl, .inl ⟨rfl, rfl, rfl, rfl⟩, hb⟩
end Go.Proofs.Ytmllokooceghiaa
