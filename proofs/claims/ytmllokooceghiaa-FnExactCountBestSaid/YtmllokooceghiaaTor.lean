/-
  One stamp more, and how many stamps are few enough: the program's two methods, by their contracts. Condition: numbers as they come in the table.
-/
import Derived.Test.YtmllokooceghiaaTar
import Derived.Laws.BitsAllLaws
import Derived.Deep.RegionWith
namespace Go.Proofs.Ytmllokooceghiaa
open Go.RowKit

/-- What the program tells of a value, as it lies. -/
def sv2 (f : Int) (c : Nat) : Value := .agg #[.int .i64 f, .int .u64 (c : Int)]

set_option maxHeartbeats 4000000 in
theorem or_skip (a : Int) (c : Nat) (w : World) :
    Calls Try.prog 75 #[sv2 a c, sv2 0 0] w fun e w' => e = .returned (sv2 a c) ∧ Below w.heap.size w w' := by
  unfold sv2
  go_enter Try.func75, Try.ntmps75
  go_wp2
  all_goals exact bodyPost_ret (v := .agg #[.int .i64 a, .int .u64 (c : Int)]) (by simp [results, Try.results75, go_sem]; try omega) rfl ⟨rfl, ((((Below.refl _ _).alloc (Nat.le_refl _) _).alloc (by simp) _).alloc (by simp; omega) _)⟩

theorem sh_bits (c : Nat) (h : c < 512) : bits .and .u64 ((c : Int) * 2) 511 = ((shN c : Nat) : Int) := by
  have := u64_and_nat (c * 2) 511 (by omega) (by omega)
  simpa [shN] using this

set_option maxHeartbeats 4000000 in
theorem or_first (a : Int) (c : Nat) (h0 : 0 ≤ a) (h1 : a ≤ 1000000) (hc : c < 512) (hn : a = 0 → ¬ c = 0) (w : World) :
    Calls Try.prog 75 #[sv2 0 0, sv2 a c] w fun e w' => e = .returned (sv2 (a + 1) (shN c)) ∧ Below w.heap.size w w' := by
  have hb := sh_bits c hc
  have hl := shN_lt c
  have hz : bits .or .u64 0 ((shN c : Nat) : Int) = ((shN c : Nat) : Int) := by
    have := u64_or_nat 0 (shN c) (by omega) (by omega)
    simpa using this
  unfold sv2
  by_cases ha : a = 0
  · have d2 : ((c : Int) == 0) = false := by have := hn ha; simp; omega
    subst ha
    clear hn
    go_enter Try.func75, Try.ntmps75
    go_wp2
    all_goals exact bodyPost_ret (v := .agg #[.int .i64 (0 + 1), .int .u64 ((shN c : Nat) : Int)]) (by simp [results, Try.results75, go_sem]; try omega) rfl ⟨rfl, ((((Below.refl _ _).alloc (Nat.le_refl _) _).alloc (by simp) _).alloc (by simp; omega) _)⟩
  · have d2 : (a == 0) = false := by simpa using ha
    clear hn ha
    go_enter Try.func75, Try.ntmps75
    go_wp2
    all_goals exact bodyPost_ret (v := .agg #[.int .i64 (a + 1), .int .u64 ((shN c : Nat) : Int)]) (by simp [results, Try.results75, go_sem]; try omega) rfl ⟨rfl, ((((Below.refl _ _).alloc (Nat.le_refl _) _).alloc (by simp) _).alloc (by simp; omega) _)⟩

set_option maxHeartbeats 4000000 in
theorem or_both (x : Int) (y : Nat) (a : Int) (c : Nat) (hx : 1 ≤ x) (hx2 : x ≤ 1000000) (hy : y < 512) (h0 : 0 ≤ a) (h1 : a ≤ 1000000) (hc : c < 512) (hn : a = 0 → ¬ c = 0) (w : World) :
    Calls Try.prog 75 #[sv2 x y, sv2 a c] w fun e w' => e = .returned (sv2 (min (a + 1) x) (y ||| shN c)) ∧ Below w.heap.size w w' := by
  have hb := sh_bits c hc
  have hl := shN_lt c
  have hz : bits .or .u64 (y : Int) ((shN c : Nat) : Int) = ((y ||| shN c : Nat) : Int) := u64_or_nat y (shN c) (by omega) (by omega)
  have d1 : (x == 0) = false := by simp; omega
  unfold sv2
  by_cases ha : a = 0
  · have d2 : ((c : Int) == 0) = false := by have := hn ha; simp; omega
    subst ha
    clear hn
    go_enter Try.func75, Try.ntmps75
    go_wp2
    all_goals exact bodyPost_ret (v := .agg #[.int .i64 (min (0 + 1) x), .int .u64 ((y ||| shN c : Nat) : Int)]) (by simp [results, Try.results75, go_sem]; try omega) rfl ⟨rfl, ((((Below.refl _ _).alloc (Nat.le_refl _) _).alloc (by simp) _).alloc (by simp; omega) _)⟩
  · have d2 : (a == 0) = false := by simpa using ha
    clear hn ha
    go_enter Try.func75, Try.ntmps75
    go_wp2
    all_goals exact bodyPost_ret (v := .agg #[.int .i64 (min (a + 1) x), .int .u64 ((y ||| shN c : Nat) : Int)]) (by simp [results, Try.results75, go_sem]; try omega) rfl ⟨rfl, ((((Below.refl _ _).alloc (Nat.le_refl _) _).alloc (by simp) _).alloc (by simp; omega) _)⟩
end Go.Proofs.Ytmllokooceghiaa
