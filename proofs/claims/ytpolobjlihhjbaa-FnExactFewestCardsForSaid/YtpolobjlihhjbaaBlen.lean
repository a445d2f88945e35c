/-
  The number of binary digits by the library and by doubling, for what is less than 128. Condition: 0 <= x < 128.
-/
import Derived.Test.YtpolobjlihhjbaaQa
import Derived.Test.YtpolobjlihhjbaaKgh
import Derived.Lib.BitFns
namespace Go.Proofs.Ytpolobjlihhjbaa
open Go.RowKit

theorem t8_fin : ∀ n : Fin 128, ∀ h : n.val < Lib.len8tab.size, wrap64 (wrap64 ((Lib.len8tab[n.val]'h).toNat : Int)) = (Lib.bitLen n.val : Int) := by decide +kernel
theorem t8 {x : Int} (h0 : 0 ≤ x) (h1 : x < 128) (h : x.toNat < Lib.len8tab.size) : wrap64 (wrap64 ((Lib.len8tab[x.toNat]'h).toNat : Int)) = (Lib.bitLen x.toNat : Int) := t8_fin ⟨x.toNat, by omega⟩ h
theorem bl_fin : ∀ m : Fin 128, Lib.bitLen m.val ≤ 7 ∧ ∀ k : Fin 8, (2 ^ k.val < m.val + 1 ↔ k.val < Lib.bitLen m.val) := by decide +kernel
/-- How many cards can tell so many numbers apart. -/
def flen (n : Int) : Nat := Lib.bitLen (n - 1).toNat
theorem flen_le {n : Int} (h0 : 1 ≤ n) (h1 : n ≤ 128) : flen n ≤ 7 := (bl_fin ⟨(n - 1).toNat, by omega⟩).1
theorem flen_iff {n : Int} (h0 : 1 ≤ n) (h1 : n ≤ 128) (k : Nat) (hk : k < 8) : ((2 ^ k : Nat) : Int) < n ↔ k < flen n := by
  have h := (bl_fin ⟨(n - 1).toNat, by omega⟩).2 ⟨k, hk⟩
  simp only at h
  unfold flen
  rw [← h]
  omega

set_option maxHeartbeats 4000000 in
set_option maxRecDepth 100000 in
theorem len64_any (x : Int) (w : World) (h0 : 0 ≤ x) (h1 : x < 128) :
    Calls Try.prog 110 #[.int .u64 x] w fun e w' => e = .returned (.int .i64 (Lib.bitLen x.toNat)) ∧ w = w' := by
  go_enter Try.func110, Try.ntmps110
  go_wp2
  go_ret
  exact ⟨ret_int (t8 h0 h1 _), rfl⟩

set_option maxHeartbeats 1000000 in
theorem bitsLen_any (x : Int) (w : World) (h0 : 0 ≤ x) (h1 : x < 128) :
    Calls Try.prog 106 #[.int .u64 x] w fun e w' => e = .returned (.int .i64 (Lib.bitLen x.toNat)) ∧ w = w' := by
  go_enter Try.func106, Try.ntmps106
  go_wp2_with (go_at_call 110; refine (len64_any _ _ h0 h1).mono ?_; rintro e w' ⟨rfl, rfl⟩)
  go_ret
  exact ⟨rfl, rfl⟩

set_option maxHeartbeats 1000000 in
theorem fewestCards_any (n : Int) (w : World) (h0 : 1 ≤ n) (h1 : n ≤ 128) :
    Calls Try.prog 98 #[.int .i64 n] w fun e w' => e = .returned (.int .i64 (flen n : Nat)) ∧ w = w' := by
  go_enter Try.func98, Try.ntmps98
  go_wp2_with (go_at_call 106; refine (bitsLen_any _ _ (by omega) (by omega)).mono ?_; rintro e w' ⟨rfl, rfl⟩)
  go_ret
  exact ⟨ret_int (by unfold flen; rw [show (n - 1).toNat = n.toNat - 1 by omega]), rfl⟩

set_option maxHeartbeats 4000000 in
theorem caFewest_any (n : Int) (w : World) (h0 : 1 ≤ n) (h1 : n ≤ 128) :
    Calls Try.prog 70 #[.int .i64 n] w fun e w' => e = .returned (.int .i64 (flen n : Nat)) ∧ w = w' := by
  have L7 := flen_le h0 h1
  have LT := Lib.hid (flen_iff h0 h1)
  obtain ⟨F, eF⟩ : ∃ F, flen n = F := ⟨_, rfl⟩
  rw [eF] at L7 LT ⊢
  clear eF
  go_enter Try.func70, Try.ntmps70
  go_wp2
  go_loop [3] (fun i => ∃ k : Nat, k ≤ F ∧ i = .int .i64 k) (fun i => F - (intOf i).toNat)
  case atStart => exact ⟨0, Nat.zero_le _, rfl⟩
  case round =>
    obtain ⟨k, hk, rfl⟩ := hrel
    have hl := LT.out k (by omega)
    clear LT
    rcases (by omega : k = 0 ∨ k = 1 ∨ k = 2 ∨ k = 3 ∨ k = 4 ∨ k = 5 ∨ k = 6 ∨ k = 7) with rfl | rfl | rfl | rfl | rfl | rfl | rfl | rfl
    all_goals simp only [Nat.reducePow] at hl
    rotate_left 7
    · go_wp2
      go_ret
      exact ⟨ret_int (by omega), rfl⟩
    all_goals
      go_wp2
      · go_round
        case rel => first | exact ⟨1, by omega, rfl⟩ | exact ⟨2, by omega, rfl⟩ | exact ⟨3, by omega, rfl⟩ | exact ⟨4, by omega, rfl⟩ | exact ⟨5, by omega, rfl⟩ | exact ⟨6, by omega, rfl⟩ | exact ⟨7, by omega, rfl⟩
        case measure => simp only [intOf]; omega
      · go_ret
        exact ⟨ret_int (by omega), rfl⟩

def fcR (n : Int) : Int := if inB n 1 128 then (flen n : Nat) else 0
set_option maxHeartbeats 1000000 in
theorem implFewestCardsFor_any (n : Int) (w : World) :
    Calls Try.prog 58 #[.int .i64 n] w fun e w' => e = .returned (.tuple #[.int .i64 (fcR n), .bool (inB n 1 128)]) ∧ Below w.heap.size w w' := by
  have H := fun (g : inB n 1 128 = true) W => fewestCards_any n W (inB_iff.1 g).1 (inB_iff.1 g).2
  go_enter Try.func58, Try.ntmps58
  by_cases g : inB n 1 128 = true
  · have e : fcR n = (flen n : Nat) := by unfold fcR; rw [if_pos g]
    have H := H g
    go_wp2_with (first | (go_at_call 66; refine (areNumbers_any _ _).mono ?_; rintro e w' ⟨rfl, rfl⟩; rw [g]) | (go_at_call 98; refine (H _).mono ?_; rintro e w' ⟨rfl, rfl⟩))
    go_ret2
    exact ⟨ret_ib (by first | exact e.symm | rw [e]) (by rw [g]), Below.refl _ _⟩
  · have g : inB n 1 128 = false := by simpa using g
    have e : fcR n = 0 := by unfold fcR; rw [g]; rfl
    clear H
    go_wp2_with (go_at_call 66; refine (areNumbers_any _ _).mono ?_; rintro e w' ⟨rfl, rfl⟩; rw [g])
    go_ret2
    exact ⟨ret_ib (by first | exact e.symm | rw [e]) (by rw [g]), Below.refl _ _⟩
set_option maxHeartbeats 1000000 in
theorem specFewestCardsFor_any (n : Int) (w : World) :
    Calls Try.prog 57 #[.int .i64 n] w fun e w' => e = .returned (.tuple #[.int .i64 (fcR n), .bool (inB n 1 128)]) ∧ Below w.heap.size w w' := by
  have H := fun (g : inB n 1 128 = true) W => caFewest_any n W (inB_iff.1 g).1 (inB_iff.1 g).2
  go_enter Try.func57, Try.ntmps57
  by_cases g : inB n 1 128 = true
  · have e : fcR n = (flen n : Nat) := by unfold fcR; rw [if_pos g]
    have H := H g
    go_wp2_with (first | (go_at_call 69; refine (l1In_any _ _ _ _).mono ?_; rintro e w' ⟨rfl, rfl⟩; rw [g]) | (go_at_call 70; refine (H _).mono ?_; rintro e w' ⟨rfl, rfl⟩))
    go_ret2
    exact ⟨ret_ib (by first | exact e.symm | rw [e]) (by rw [g]), Below.refl _ _⟩
  · have g : inB n 1 128 = false := by simpa using g
    have e : fcR n = 0 := by unfold fcR; rw [g]; rfl
    clear H
    go_wp2_with (go_at_call 69; refine (l1In_any _ _ _ _).mono ?_; rintro e w' ⟨rfl, rfl⟩; rw [g])
    go_ret2
    exact ⟨ret_ib (by first | exact e.symm | rw [e]) (by rw [g]), Below.refl _ _⟩
end Go.Proofs.Ytpolobjlihhjbaa
