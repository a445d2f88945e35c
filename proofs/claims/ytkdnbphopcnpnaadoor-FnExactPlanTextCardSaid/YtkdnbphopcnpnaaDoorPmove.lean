/-
  What is given and taken on a day, and how many moves that is, in the program. Condition: sets of at most eight pieces.
-/
import Derived.Test.YtkdnbphopcnpnaaDoorPbite
namespace Go.Proofs.YtkdnbphopcnpnaaDoor
open Go.RowKit

theorem andNot_bit (a b : Nat) (ha : a < 256) (hb : b < 256) : bits .andNot .u64 (a : Int) (b : Int) = ((a &&& (18446744073709551615 - b) : Nat) : Int) := u64_andNot_nat a b (by omega) (by omega)
theorem andNot_lt (a b : Nat) (ha : a < 256) : (a &&& (18446744073709551615 - b)) < 256 := Nat.lt_of_le_of_lt Nat.and_le_left ha
theorem andNot_test (a b : Nat) (hb : b < 256) (i : Nat) (hi : i < 8) : bitI (a &&& (18446744073709551615 - b)) i = (bitI a i && !bitI b i) := by
  unfold bitI
  rw [Nat.testBit_and]
  have e : 18446744073709551615 - b = 2 ^ 64 - (b + 1) := by omega
  rw [e, Nat.testBit_two_pow_sub_succ (by omega)]
  have : i < 64 := by omega
  simp [this]
/-- What is given, and what is taken, as bits. -/
def gvn (a b : Nat) : Nat := b &&& (18446744073709551615 - a)
set_option maxHeartbeats 1000000 in
theorem given_any (a b : Nat) (w : World) (ha : a < 256) (hb : b < 256) :
    Calls Tryd.prog 27 #[.agg #[.int .u64 a, .int .u64 b]] w fun e w' => e = .returned (.int .u64 (gvn a b : Nat)) ∧ Below w.heap.size w w' := by
  have h := andNot_bit b a hb ha
  go_enter Tryd.func27, Tryd.ntmps27
  go_wp2
  go_ret
  exact ⟨rfl, (Below.refl _ _).alloc (Nat.le_refl _) _⟩
set_option maxHeartbeats 1000000 in
theorem taken_any (a b : Nat) (w : World) (ha : a < 256) (hb : b < 256) :
    Calls Tryd.prog 29 #[.agg #[.int .u64 a, .int .u64 b]] w fun e w' => e = .returned (.int .u64 (gvn b a : Nat)) ∧ Below w.heap.size w w' := by
  have h := andNot_bit a b ha hb
  go_enter Tryd.func29, Tryd.ntmps29
  go_wp2
  go_ret
  exact ⟨rfl, (Below.refl _ _).alloc (Nat.le_refl _) _⟩
theorem gvn_lt {a b : Nat} (hb : b < 256) : gvn a b < 256 := andNot_lt b a hb
theorem gvn_only {x y : List Int} (hx : Rs 0 7 x) (hy : Rs 0 7 y) : idx (gvn (maskL x) (maskL y)) = onlyL y x :=
  idx_only hy hx fun i hi => andNot_test _ _ (mask_lt hx) i hi
end Go.Proofs.YtkdnbphopcnpnaaDoor
