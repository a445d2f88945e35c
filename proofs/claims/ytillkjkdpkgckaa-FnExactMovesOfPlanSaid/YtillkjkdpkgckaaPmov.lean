/-
  What is given and taken on a day, and how many moves that is, in the program. Condition: sets of at most eight pieces.
-/
import Derived.Test.YtillkjkdpkgckaaPbit
namespace Go.Proofs.Ytillkjkdpkgckaa
open Go.RowKit

def ocA (x : Nat) : Nat := (x / 2) &&& 6148914691236517205
def ocB (x : Nat) : Nat := x &&& 6148914691236517205
def ocC (x : Nat) : Nat := ((ocA x + ocB x) / 4) &&& 3689348814741910323
def ocD (x : Nat) : Nat := (ocA x + ocB x) &&& 3689348814741910323
def ocE (x : Nat) : Nat := ((ocC x + ocD x) / 16 + (ocC x + ocD x)) &&& 1085102592571150095
theorem oc_facts : ∀ x : Fin 256, ocA x.val ≤ 255 ∧ ocB x.val ≤ 255 ∧ ocC x.val ≤ 255 ∧ ocD x.val ≤ 255 ∧ ocE x.val = (idx x.val).length ∧ ocE x.val ≤ 8 := by decide +kernel
theorem and127 : ∀ d : Fin 9, bits .and .i64 (d.val : Int) 127 = (d.val : Int) := by decide +kernel

set_option maxHeartbeats 4000000 in
set_option maxRecDepth 20000 in
theorem onesCount64_any (x : Nat) (w : World) (hx : x < 256) :
    Calls Try.prog 95 #[.int .u64 x] w fun e w' => e = .returned (.int .i64 ((idx x).length : Nat)) ∧ w = w' := by
  obtain ⟨h1, h2, h3, h4, h5, h6⟩ := oc_facts ⟨x, hx⟩
  simp only at h1 h2 h3 h4 h5 h6
  have eA : bits .and .u64 ((x : Int) / 2) 6148914691236517205 = (ocA x : Nat) := by
    have := u64_and_nat (x / 2) 6148914691236517205 (by omega) (by omega); simpa [ocA] using this
  have eB : bits .and .u64 (x : Int) 6148914691236517205 = (ocB x : Nat) := by
    have := u64_and_nat x 6148914691236517205 (by omega) (by omega); simpa [ocB] using this
  have eC : bits .and .u64 (((ocA x : Nat) + (ocB x : Nat) : Int) / 4) 3689348814741910323 = (ocC x : Nat) := by
    have := u64_and_nat ((ocA x + ocB x) / 4) 3689348814741910323 (by omega) (by omega); simpa [ocC] using this
  have eD : bits .and .u64 ((ocA x : Nat) + (ocB x : Nat) : Int) 3689348814741910323 = (ocD x : Nat) := by
    have := u64_and_nat (ocA x + ocB x) 3689348814741910323 (by omega) (by omega); simpa [ocD] using this
  have eE : bits .and .u64 (((ocC x : Nat) + (ocD x : Nat) : Int) / 16 + ((ocC x : Nat) + (ocD x : Nat))) 1085102592571150095 = (ocE x : Nat) := by
    have := u64_and_nat ((ocC x + ocD x) / 16 + (ocC x + ocD x)) 1085102592571150095 (by omega) (by omega); simpa [ocE] using this
  have e127 := and127 ⟨ocE x, by omega⟩
  simp only at e127
  have H5 := Lib.hid h5
  clear h5
  obtain ⟨a, ea⟩ : ∃ a, ocA x = a := ⟨_, rfl⟩
  obtain ⟨b, eb⟩ : ∃ b, ocB x = b := ⟨_, rfl⟩
  obtain ⟨c, ec⟩ : ∃ c, ocC x = c := ⟨_, rfl⟩
  obtain ⟨d, ed⟩ : ∃ d, ocD x = d := ⟨_, rfl⟩
  obtain ⟨e, ee⟩ : ∃ e, ocE x = e := ⟨_, rfl⟩
  rw [ea] at h1 eA eC eD
  rw [eb] at h2 eB eC eD
  rw [ec] at h3 eC eE
  rw [ed] at h4 eD eE
  rw [ee] at h6 eE e127
  have EE := Lib.hid ee
  have z1 : (e : Int) / 256 = 0 := by omega
  have z2 : (e : Int) / 65536 = 0 := by omega
  have z3 : (e : Int) / 4294967296 = 0 := by omega
  clear ea eb ec ed ee
  go_enter Try.func95, Try.ntmps95
  go_wp2
  go_ret
  exact ⟨ret_int (by rw [← H5.out, EE.out]), rfl⟩

set_option maxHeartbeats 1000000 in
theorem onesCount_any (x : Nat) (w : World) (hx : x < 256) :
    Calls Try.prog 88 #[.int .u64 x] w fun e w' => e = .returned (.int .i64 ((idx x).length : Nat)) ∧ w = w' := by
  go_enter Try.func88, Try.ntmps88
  go_wp2_with (go_at_call 95; refine (onesCount64_any _ _ hx).mono ?_; rintro e w' ⟨rfl, rfl⟩)
  go_ret
  exact ⟨rfl, rfl⟩

theorem andNot_bit (a b : Nat) (ha : a < 256) (hb : b < 256) : bits .andNot .u64 (a : Int) (b : Int) = ((a &&& (18446744073709551615 - b) : Nat) : Int) := u64_andNot_nat a b (by omega) (by omega)
theorem andNot_lt (a b : Nat) (ha : a < 256) : (a &&& (18446744073709551615 - b)) < 256 := Nat.lt_of_le_of_lt Nat.and_le_left ha
theorem andNot_test (a b : Nat) (hb : b < 256) (i : Nat) (hi : i < 8) : bitI (a &&& (18446744073709551615 - b)) i = (bitI a i && !bitI b i) := by
  unfold bitI
  rw [Nat.testBit_and]
  have e : 18446744073709551615 - b = 2 ^ 64 - (b + 1) := by omega
  rw [e, Nat.testBit_two_pow_sub_succ (by omega)]
  have : i < 64 := by omega
  simp [this]
theorem xor_test (a b i : Nat) : bitI (a ^^^ b) i = (bitI a i ^^ bitI b i) := by unfold bitI; rw [Nat.testBit_xor]

/-- What is given, and what is taken, as bits. -/
def gvn (a b : Nat) : Nat := b &&& (18446744073709551615 - a)
set_option maxHeartbeats 1000000 in
theorem given_any (a b : Nat) (w : World) (ha : a < 256) (hb : b < 256) :
    Calls Try.prog 69 #[.agg #[.int .u64 a, .int .u64 b]] w fun e w' => e = .returned (.int .u64 (gvn a b : Nat)) ∧ Below w.heap.size w w' := by
  have h := andNot_bit b a hb ha
  go_enter Try.func69, Try.ntmps69
  go_wp2
  go_ret
  exact ⟨rfl, (Below.refl _ _).alloc (Nat.le_refl _) _⟩
set_option maxHeartbeats 1000000 in
theorem taken_any (a b : Nat) (w : World) (ha : a < 256) (hb : b < 256) :
    Calls Try.prog 71 #[.agg #[.int .u64 a, .int .u64 b]] w fun e w' => e = .returned (.int .u64 (gvn b a : Nat)) ∧ Below w.heap.size w w' := by
  have h := andNot_bit a b ha hb
  go_enter Try.func71, Try.ntmps71
  go_wp2
  go_ret
  exact ⟨rfl, (Below.refl _ _).alloc (Nat.le_refl _) _⟩
set_option maxHeartbeats 1000000 in
theorem moves_any (a b : Nat) (w : World) (ha : a < 256) (hb : b < 256) :
    Calls Try.prog 72 #[.agg #[.int .u64 a, .int .u64 b]] w fun e w' => e = .returned (.int .i64 ((idx (a ^^^ b)).length : Nat)) ∧ Below w.heap.size w w' := by
  have h := u64_xor_nat a b (by omega) (by omega)
  have hx : (a ^^^ b) < 256 := Nat.xor_lt_two_pow (n := 8) ha hb
  go_enter Try.func72, Try.ntmps72
  go_wp2_with (go_at_call 88; refine (onesCount_any _ _ hx).mono ?_; rintro e w' ⟨rfl, rfl⟩)
  go_ret
  exact ⟨rfl, (Below.refl _ _).alloc (Nat.le_refl _) _⟩

theorem gvn_lt {a b : Nat} (hb : b < 256) : gvn a b < 256 := andNot_lt b a hb
theorem gvn_only {x y : List Int} (hx : Rs 0 7 x) (hy : Rs 0 7 y) : idx (gvn (maskL x) (maskL y)) = onlyL y x :=
  idx_only hy hx fun i hi => andNot_test _ _ (mask_lt hx) i hi
theorem moves_only {x y : List Int} (hx : Rs 0 7 x) (hy : Rs 0 7 y) : (idx (maskL x ^^^ maskL y)).length = (onlyL x y).length + (onlyL y x).length :=
  idx_xor hx hy fun i _ => xor_test _ _ i
end Go.Proofs.Ytillkjkdpkgckaa
