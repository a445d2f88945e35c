/-
  Few pieces and numbers that may be asked for, and how many signs have a value, in the model and in the program, by contracts. Conditions: slices of at most 2^40 numbers, numbers of a size of at most 2^40.
-/
import Derived.Test.YtcgifmoddojnmaaZwa
import Derived.Test.YtcgifmoddojnmaaLpz
import Derived.Test.YtcgifmoddojnmaaTabz
namespace Go.Proofs.Ytcgifmoddojnmaa
open Go.RowKit

noncomputable def sideB (xs : List Int) : Bool := goodB xs && decide (xs.length ≤ 12)
noncomputable def askV (xs : List Int) (n : Int) : Bool := sideB xs && inB n 0 1000000
noncomputable def smallB (xs : List Int) : Bool := goodB xs && decide (sumP xs ≤ 10000)
theorem sideB_no {xs : List Int} (h : goodB xs = false) : sideB xs = false := by simp [sideB, h]
theorem sideB_long {xs : List Int} (h : ¬ xs.length ≤ 12) : sideB xs = false := by simp only [sideB, Bool.and_eq_false_iff, decide_eq_false_iff_not]; exact .inr h
theorem sideB_yes {xs : List Int} (h : goodB xs = true) (h2 : xs.length ≤ 12) : sideB xs = true := by simp [sideB, h, h2]
theorem sideB_iff {xs : List Int} : sideB xs = true ↔ Good xs ∧ xs.length ≤ 12 := by simp [sideB, goodB_iff]
theorem smallB_no {xs : List Int} (h : goodB xs = false) : smallB xs = false := by simp [smallB, h]
theorem smallB_big {xs : List Int} (h : ¬ sumP xs ≤ 10000) : smallB xs = false := by simp only [smallB, Bool.and_eq_false_iff, decide_eq_false_iff_not]; exact .inr h
theorem smallB_yes {xs : List Int} (h : goodB xs = true) (h2 : sumP xs ≤ 10000) : smallB xs = true := by simp [smallB, h, h2]
theorem smallB_iff {xs : List Int} : smallB xs = true ↔ Good xs ∧ sumP xs ≤ 10000 := by simp [smallB, goodB_iff]
theorem askV_no {xs : List Int} {n : Int} (h : sideB xs = false) : askV xs n = false := by simp [askV, h]
theorem askV_out {xs : List Int} {n : Int} (h : inB n 0 1000000 = false) : askV xs n = false := by simp [askV, h]
theorem askV_yes {xs : List Int} {n : Int} (h : sideB xs = true) (h2 : inB n 0 1000000 = true) : askV xs n = true := by simp [askV, h, h2]
theorem askV_iff {xs : List Int} {n : Int} : askV xs n = true ↔ sideB xs = true ∧ inB n 0 1000000 = true := by simp [askV]

set_option maxHeartbeats 1000000 in
theorem siFew_any (v : Value) (xs : List Int) (w : World) (h : Sv w v xs) (hl : xs.length ≤ 1099511627776) :
    Calls Try.prog 67 #[v] w fun e w' => e = .returned (.bool (sideB xs)) ∧ Below w.heap.size w w' := by
  have hs := h
  obtain ⟨p, cap, rfl, -⟩ := h
  by_cases hg : goodB xs = true
  · by_cases h12 : xs.length ≤ 12
    · have R := Lib.hid (sideB_yes hg h12)
      have d : decide ((xs.length : Int) ≤ 12) = true := by simp; omega
      clear h12
      go_enter Try.func67, Try.ntmps67
      go_wp2_with fail
      refine (piGood_any _ _ _ hs hl).mono ?_
      rintro e w1 ⟨rfl, b1⟩
      go_wp2_with fail
      go_ret
      exact ⟨ret_bool R.out.symm, b1⟩
    · have R := Lib.hid (sideB_long h12)
      have d : decide ((xs.length : Int) ≤ 12) = false := by simp; omega
      clear h12
      go_enter Try.func67, Try.ntmps67
      go_wp2_with fail
      refine (piGood_any _ _ _ hs hl).mono ?_
      rintro e w1 ⟨rfl, b1⟩
      go_wp2_with fail
      go_ret
      exact ⟨ret_bool R.out.symm, b1⟩
  · have hg : goodB xs = false := by simpa using hg
    have R := Lib.hid (sideB_no hg)
    go_enter Try.func67, Try.ntmps67
    go_wp2_with fail
    refine (piGood_any _ _ _ hs hl).mono ?_
    rintro e w1 ⟨rfl, b1⟩
    go_wp2_with fail
    go_ret
    exact ⟨ret_bool R.out.symm, b1⟩

set_option maxHeartbeats 1000000 in
theorem areSide_any (v : Value) (xs : List Int) (w : World) (h : Sv w v xs) (hl : xs.length ≤ 1099511627776) :
    Calls Try.prog 58 #[v] w fun e w' => e = .returned (.bool (sideB xs)) ∧ Below w.heap.size w w' := by
  have hs := h
  obtain ⟨p, cap, rfl, -⟩ := h
  by_cases h12 : xs.length ≤ 12
  · have d : decide ((xs.length : Int) ≤ 12) = true := by simp; omega
    have R : Hid (sideB xs = goodB xs) := Lib.hid (by simp [sideB, h12])
    clear h12
    go_enter Try.func58, Try.ntmps58
    go_wp2_with fail
    refine (arePieces_any _ _ _ hs hl).mono ?_
    rintro e w1 ⟨rfl, b1⟩
    go_wp2_with fail
    go_ret
    exact ⟨ret_bool R.out.symm, b1⟩
  · have R := Lib.hid (sideB_long h12)
    have d : decide ((xs.length : Int) ≤ 12) = false := by simp; omega
    clear h12
    go_enter Try.func58, Try.ntmps58
    go_wp2_with fail
    go_ret
    exact ⟨ret_bool R.out.symm, Below.refl _ _⟩

theorem isAskedV_any (n : Int) (w : World) : Calls Try.prog 59 #[.int .i64 n] w fun e w' => e = .returned (.bool (inB n 0 1000000)) ∧ w = w' := by
  by_cases h : 0 ≤ n
  · have h1 : decide (0 ≤ n) = true := by simpa using h
    go_enter Try.func59, Try.ntmps59
    go_wp2
    go_ret
    exact ⟨ret_bool (by simp [inB, h]), rfl⟩
  · have h1 : decide (0 ≤ n) = false := by simpa using h
    go_enter Try.func59, Try.ntmps59
    go_wp2
    go_ret
    exact ⟨ret_bool (by simp [inB]; omega), rfl⟩

set_option maxHeartbeats 1000000 in
theorem siAsked_any (v : Value) (xs : List Int) (n : Int) (w : World) (h : Sv w v xs) (hl : xs.length ≤ 1099511627776) :
    Calls Try.prog 55 #[v, .int .i64 n] w fun e w' => e = .returned (.bool (askV xs n)) ∧ Below w.heap.size w w' := by
  by_cases hg : sideB xs = true
  · by_cases hi : inB n 0 1000000 = true
    · have R := Lib.hid (askV_yes hg hi)
      go_enter Try.func55, Try.ntmps55
      go_wp2_with fail
      refine (siFew_any _ _ _ h hl).mono ?_
      rintro e w1 ⟨rfl, b1⟩
      go_wp2_with fail
      refine (l1In_any _ _ _ _).mono ?_
      rintro e w1' ⟨rfl, rfl⟩
      go_wp2_with fail
      go_ret
      exact ⟨ret_bool R.out.symm, b1⟩
    · have hi : inB n 0 1000000 = false := by simpa using hi
      have R := Lib.hid (askV_out (xs := xs) hi)
      go_enter Try.func55, Try.ntmps55
      go_wp2_with fail
      refine (siFew_any _ _ _ h hl).mono ?_
      rintro e w1 ⟨rfl, b1⟩
      go_wp2_with fail
      refine (l1In_any _ _ _ _).mono ?_
      rintro e w1' ⟨rfl, rfl⟩
      go_wp2_with fail
      go_ret
      exact ⟨ret_bool R.out.symm, b1⟩
  · have hg : sideB xs = false := by simpa using hg
    have R := Lib.hid (askV_no (n := n) hg)
    go_enter Try.func55, Try.ntmps55
    go_wp2_with fail
    refine (siFew_any _ _ _ h hl).mono ?_
    rintro e w1 ⟨rfl, b1⟩
    go_wp2_with fail
    go_ret
    exact ⟨ret_bool R.out.symm, b1⟩

set_option maxHeartbeats 1000000 in
theorem siSmall_any (v : Value) (xs : List Int) (w : World) (h : Sv w v xs) (hl : xs.length ≤ 1099511627776) :
    Calls Try.prog 74 #[v] w fun e w' => e = .returned (.bool (smallB xs)) ∧ Below w.heap.size w w' := by
  by_cases hg : goodB xs = true
  · have R : Hid (smallB xs = decide (sumP xs ≤ 10000)) := Lib.hid (by simp [smallB, hg])
    have hgood := goodB_iff.1 hg
    go_enter Try.func74, Try.ntmps74
    go_wp2_with fail
    refine (piGood_any _ _ _ h hl).mono ?_
    rintro e w1 ⟨rfl, b1⟩
    go_wp2_with fail
    refine (piSum_any _ _ _ (h.below b1 (Nat.le_refl _)) hgood).mono ?_
    rintro e w1' ⟨rfl, rfl⟩
    go_wp2_with fail
    go_ret
    exact ⟨ret_bool R.out.symm, b1⟩
  · have hg : goodB xs = false := by simpa using hg
    have R := Lib.hid (smallB_no hg)
    go_enter Try.func74, Try.ntmps74
    go_wp2_with fail
    refine (piGood_any _ _ _ h hl).mono ?_
    rintro e w1 ⟨rfl, b1⟩
    go_wp2_with fail
    go_ret
    exact ⟨ret_bool R.out.symm, b1⟩

set_option maxHeartbeats 1000000 in
theorem areTogether_any (v : Value) (xs : List Int) (w : World) (h : Sv w v xs) (hl : xs.length ≤ 1099511627776) :
    Calls Try.prog 76 #[v] w fun e w' => e = .returned (.bool (smallB xs)) ∧ Below w.heap.size w w' := by
  have hfld := field_sum
  by_cases hg : goodB xs = true
  · have R : Hid (smallB xs = decide (sumP xs ≤ 10000)) := Lib.hid (by simp [smallB, hg])
    have hgood := goodB_iff.1 hg
    go_enter Try.func76, Try.ntmps76
    go_wp2_with fail
    refine (arePieces_any _ _ _ h hl).mono ?_
    rintro e w1 ⟨rfl, b1⟩
    go_wp2_with fail
    refine (sumOfAll_any _ _ _ (h.below b1 (Nat.le_refl _)) hgood).mono ?_
    rintro e w2 ⟨rfl, b2⟩
    go_wp2_with fail
    go_ret
    exact ⟨ret_bool R.out.symm, nxt b1 b2⟩
  · have hg : goodB xs = false := by simpa using hg
    have R := Lib.hid (smallB_no hg)
    go_enter Try.func76, Try.ntmps76
    go_wp2_with fail
    refine (arePieces_any _ _ _ h hl).mono ?_
    rintro e w1 ⟨rfl, b1⟩
    go_wp2_with fail
    go_ret
    exact ⟨ret_bool R.out.symm, b1⟩

set_option maxHeartbeats 1000000 in
theorem siMake_any (v : Value) (xs : List Int) (n : Int) (w : World) (h : Sv w v xs) (hg : Good xs) (hn0 : -1099511627776 ≤ n) (hn1 : n ≤ 1099511627776) :
    Calls Try.prog 56 #[v, .int .i64 n] w fun e w' => e = .returned (.int .i64 (Sy xs n)) ∧ Below w.heap.size w w' := by
  obtain ⟨htop, htop2⟩ := hg.top
  have HS := Lib.hid htop
  have HL := Lib.hid (syList_len xs)
  obtain ⟨T, eT⟩ : ∃ T, top xs = T := ⟨_, rfl⟩
  have SL := Lib.hid (syList_at xs)
  have Z : Hid (¬ (-(T : Int) ≤ n ∧ n ≤ T) → Sy xs n = 0) := Lib.hid (fun hh => by
    by_cases hz : Sy xs n = 0
    · exact hz
    · have := Sy_in hg.mem hz
      have e : sumFrom 0 xs = T := by have := HS.out; unfold sumP at this; omega
      rw [e] at this
      exact absurd this hh)
  rw [eT] at HS HL SL htop2
  clear htop eT
  by_cases hi : inB n (-(T : Int)) T = true
  · obtain ⟨hi0, hi1⟩ := inB_iff.1 hi
    go_enter Try.func56, Try.ntmps56
    go_wp2_with fail
    refine (piSum_any _ _ _ h hg).mono ?_
    rintro e w1' ⟨rfl, rfl⟩
    rw [← HS.out]
    go_wp2_with fail
    refine (l1In_any _ _ _ _).mono ?_
    rintro e w1' ⟨rfl, rfl⟩
    go_wp2_with fail
    refine (siWays_any _ _ _ h hg).mono ?_
    rintro e w1 ⟨u, rfl, o1, b1⟩
    obtain ⟨p, cap, rfl, hx⟩ := o1.sv
    rw [HL.out] at hx ⊢
    obtain ⟨b, off, rfl, hbl, hc⟩ := hx (by omega)
    obtain ⟨q, hq⟩ : ∃ q : Nat, (T : Int) + n = (q : Int) := ⟨((T : Int) + n).toNat, by omega⟩
    have hcell := hc q (by omega)
    rw [SL.out q (by omega)] at hcell
    rw [show (q : Int) - (T : Int) = n by omega] at hcell
    have hw : IntKind.i64.wrap ((T : Int) + n) = (q : Int) := by rw [hq]; exact IntWalk.i64_in _ (by omega)
    have hq1 : (q : Int) < 2 * (T : Int) + 1 := by omega
    clear hc hx o1 hq
    go_wp2
    go_ret
    exact ⟨rfl, b1⟩
  · have R := Lib.hid (Z.out (fun hh => hi (inB_iff.2 hh)))
    have hi : inB n (-(T : Int)) T = false := by simpa using hi
    go_enter Try.func56, Try.ntmps56
    go_wp2_with fail
    refine (piSum_any _ _ _ h hg).mono ?_
    rintro e w1' ⟨rfl, rfl⟩
    rw [← HS.out]
    go_wp2_with fail
    refine (l1In_any _ _ _ _).mono ?_
    rintro e w1' ⟨rfl, rfl⟩
    go_wp2_with fail
    go_ret
    exact ⟨ret_int R.out.symm, Below.refl _ _⟩

end Go.Proofs.Ytcgifmoddojnmaa
