/-
  How many stamps are few enough: the program's method, by its contracts. Condition: numbers as they come in the table.
-/
import Derived.Test.YtmllokooceghiaaTor
namespace Go.Proofs.Ytmllokooceghiaa
open Go.RowKit

def atM (r : Int) : Value := .iface 48 (.agg #[.int .i64 r])
def jst (r : Int) : Value := .iface 55 (.agg #[.int .i64 r])

theorem ta_most (v : Value) (w : World) : (Instr.typeAssert (.iface 48 v) 20 48 true).run Try.prog w = .ok (.tuple #[v, .bool true]) w := by
  simp [Instr.typeAssert, run_underlying Try.underlying48]
theorem ta_just (v : Value) (w : World) : (Instr.typeAssert (.iface 55 v) 20 55 true).run Try.prog w = .ok (.tuple #[v, .bool true]) w := by
  simp [Instr.typeAssert, run_underlying Try.underlying55]
theorem zero_most : (Try.prog.info? 48).map (·.zero) = some (some (.agg #[.int .i64 0])) := by kernel_rfl
theorem ta_other (v : Value) (w : World) : (Instr.typeAssert (.iface 55 v) 20 48 true).run Try.prog w = .ok (.tuple #[.agg #[.int .i64 0], .bool false]) w := by
  have hz := zero_most
  cases hi : Try.prog.info? 48 with
  | none => rw [hi] at hz; cases hz
  | some i =>
    rw [hi] at hz
    have hz : i.zero = some (.agg #[.int .i64 0]) := by simpa using hz
    simp [Instr.typeAssert, run_underlying Try.underlying48, zeroValue, typeInfo, hi, hz]

set_option maxHeartbeats 4000000 in
theorem made_none (r : Int) (w : World) :
    Calls Try.prog 56 #[sv2 0 0, atM r] w fun e w' => e = .returned (.bool false) ∧ Below w.heap.size w w' := by
  have hta := ta_most
  unfold sv2 atM
  go_enter Try.func56, Try.ntmps56
  go_wp2
  go_ret
  exact ⟨rfl, ((Below.refl _ _).alloc (Nat.le_refl _) _).alloc (by simp) _⟩
set_option maxHeartbeats 4000000 in
theorem made_some (a : Int) (c : Nat) (hn : a = 0 → ¬ c = 0) (r : Int) (w : World) :
    Calls Try.prog 56 #[sv2 a c, atM r] w fun e w' => e = .returned (.bool (decide (a ≤ r))) ∧ Below w.heap.size w w' := by
  have hta := ta_most
  unfold sv2 atM
  by_cases ha : a = 0
  · have d2 : ((c : Int) == 0) = false := by have := hn ha; simp; omega
    subst ha
    clear hn
    go_enter Try.func56, Try.ntmps56
    go_wp2
    go_ret
    exact ⟨rfl, ((Below.refl _ _).alloc (Nat.le_refl _) _).alloc (by simp) _⟩
  · have d2 : (a == 0) = false := by simpa using ha
    clear hn ha
    go_enter Try.func56, Try.ntmps56
    go_wp2
    go_ret
    exact ⟨rfl, ((Below.refl _ _).alloc (Nat.le_refl _) _).alloc (by simp) _⟩
theorem and_bit (m k : Nat) (hm : m < 512) : bits .and .u64 ((m : Int) / 2 ^ k) 1 = (if m.testBit k = true then 1 else 0) := by
  have e : (m : Int) / 2 ^ k = ((m / 2 ^ k : Nat) : Int) := by simp
  have h1 : m / 2 ^ k ≤ m := Nat.div_le_self _ _
  rw [e, show (1 : Int) = ((1 : Nat) : Int) from rfl, u64_and_nat _ 1 (by omega) (by omega), Nat.and_one_is_mod]
  rw [Nat.testBit_eq_decide_div_mod_eq]
  by_cases h : m / 2 ^ k % 2 = 1
  · simp [h]
  · have : m / 2 ^ k % 2 = 0 := by omega
    simp [this]
set_option maxHeartbeats 4000000 in
theorem made_just (a : Int) (c : Nat) (hc : c < 512) (k : Nat) (hk : k ≤ 8) (w : World) :
    Calls Try.prog 56 #[sv2 a c, jst k] w fun e w' => e = .returned (.bool (c.testBit k)) ∧ Below w.heap.size w w' := by
  have hb := and_bit c k hc
  have hta := ta_just
  have hto := ta_other
  unfold sv2 jst
  by_cases ht : c.testBit k = true
  · rw [if_pos ht] at hb
    have HT := Lib.hid ht
    clear ht
    go_enter Try.func56, Try.ntmps56
    go_wp2
    go_ret
    exact ⟨ret_bool (by rw [HT.out]), ((Below.refl _ _).alloc (Nat.le_refl _) _).alloc (by simp) _⟩
  · rw [if_neg ht] at hb
    have HT : Hid (c.testBit k = false) := Lib.hid (by simpa using ht)
    clear ht
    go_enter Try.func56, Try.ntmps56
    go_wp2
    go_ret
    exact ⟨ret_bool (by rw [HT.out]), ((Below.refl _ _).alloc (Nat.le_refl _) _).alloc (by simp) _⟩
end Go.Proofs.Ytmllokooceghiaa
