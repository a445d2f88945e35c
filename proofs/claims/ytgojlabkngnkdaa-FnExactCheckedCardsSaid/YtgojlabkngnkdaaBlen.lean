/-
  The number of binary digits by the library and by doubling, for what is less than 128. Condition: 0 <= x < 128.
-/
import Derived.Test.YtgojlabkngnkdaaQa
import Derived.Test.YtgojlabkngnkdaaKga
import Derived.Lib.BitFns
namespace Go.Proofs.Ytgojlabkngnkdaa
open Go.RowKit

theorem t8_fin : ∀ n : Fin 128, ∀ h : n.val < Lib.len8tab.size, wrap64 (wrap64 ((Lib.len8tab[n.val]'h).toNat : Int)) = (Lib.bitLen n.val : Int) := by decide +kernel
theorem t8 {x : Int} (h0 : 0 ≤ x) (h1 : x < 128) (h : x.toNat < Lib.len8tab.size) : wrap64 (wrap64 ((Lib.len8tab[x.toNat]'h).toNat : Int)) = (Lib.bitLen x.toNat : Int) := t8_fin ⟨x.toNat, by omega⟩ h
theorem bl_fin : ∀ m : Fin 128, Lib.bitLen m.val ≤ 7 ∧ ∀ k : Fin 8, (2 ^ k.val < m.val + 1 ↔ k.val < Lib.bitLen m.val) := by decide +kernel
/-- How many cards can tell so many numbers apart. -/
def flen (n : Int) : Nat := Lib.bitLen (n - 1).toNat
theorem flen_le {n : Int} (h0 : 1 ≤ n) (h1 : n ≤ 128) : flen n ≤ 7 := (bl_fin ⟨(n - 1).toNat, by omega⟩).1
theorem flen_iff {n : Int} (h0 : 1 ≤ n) (h1 : n ≤ 128) (k : Nat) (hk : k < 8) : ((2 ^ k : Nat) : Int) < n ↔ k < flen n := by
  have h := (bl_fin ⟨(n - 1).toNat, by omega⟩).2 ⟨k, hk⟩
  simp only at h
  unfold flen
  rw [← h]
  omega

set_option maxHeartbeats 4000000 in
set_option maxRecDepth 100000 in
theorem len64_any (x : Int) (w : World) (h0 : 0 ≤ x) (h1 : x < 128) :
    Calls Try.prog 77 #[.int .u64 x] w fun e w' => e = .returned (.int .i64 (Lib.bitLen x.toNat)) ∧ w = w' := by
  go_enter Try.func77, Try.ntmps77
  go_wp2
  go_ret
  exact ⟨ret_int (t8 h0 h1 _), rfl⟩

set_option maxHeartbeats 1000000 in
theorem bitsLen_any (x : Int) (w : World) (h0 : 0 ≤ x) (h1 : x < 128) :
    Calls Try.prog 70 #[.int .u64 x] w fun e w' => e = .returned (.int .i64 (Lib.bitLen x.toNat)) ∧ w = w' := by
  go_enter Try.func70, Try.ntmps70
  go_wp2_with (go_at_call 77; refine (len64_any _ _ h0 h1).mono ?_; rintro e w' ⟨rfl, rfl⟩)
  go_ret
  exact ⟨rfl, rfl⟩

set_option maxHeartbeats 1000000 in
theorem fewestCards_any (n : Int) (w : World) (h0 : 1 ≤ n) (h1 : n ≤ 128) :
    Calls Try.prog 61 #[.int .i64 n] w fun e w' => e = .returned (.int .i64 (flen n : Nat)) ∧ w = w' := by
  go_enter Try.func61, Try.ntmps61
  go_wp2_with (go_at_call 70; refine (bitsLen_any _ _ (by omega) (by omega)).mono ?_; rintro e w' ⟨rfl, rfl⟩)
  go_ret
  exact ⟨ret_int (by unfold flen; rw [show (n - 1).toNat = n.toNat - 1 by omega]), rfl⟩

set_option maxHeartbeats 4000000 in
theorem caFewest_any (n : Int) (w : World) (h0 : 1 ≤ n) (h1 : n ≤ 128) :
    Calls Try.prog 38 #[.int .i64 n] w fun e w' => e = .returned (.int .i64 (flen n : Nat)) ∧ w = w' := by
  have L7 := flen_le h0 h1
  have LT := Lib.hid (flen_iff h0 h1)
  obtain ⟨F, eF⟩ : ∃ F, flen n = F := ⟨_, rfl⟩
  rw [eF] at L7 LT ⊢
  clear eF
  go_enter Try.func38, Try.ntmps38
  go_wp2
  go_loop [3] (fun i => ∃ k : Nat, k ≤ F ∧ i = .int .i64 k) (fun i => F - (intOf i).toNat)
  case atStart => exact ⟨0, Nat.zero_le _, rfl⟩
  case round =>
    obtain ⟨k, hk, rfl⟩ := hrel
    have hl := LT.out k (by omega)
    clear LT
    rcases (by omega : k = 0 ∨ k = 1 ∨ k = 2 ∨ k = 3 ∨ k = 4 ∨ k = 5 ∨ k = 6 ∨ k = 7) with rfl | rfl | rfl | rfl | rfl | rfl | rfl | rfl
    all_goals simp only [Nat.reducePow] at hl
    rotate_left 7
    · go_wp2
      go_ret
      exact ⟨ret_int (by omega), rfl⟩
    all_goals
      go_wp2
      · go_round
        case rel => first | exact ⟨1, by omega, rfl⟩ | exact ⟨2, by omega, rfl⟩ | exact ⟨3, by omega, rfl⟩ | exact ⟨4, by omega, rfl⟩ | exact ⟨5, by omega, rfl⟩ | exact ⟨6, by omega, rfl⟩ | exact ⟨7, by omega, rfl⟩
        case measure => simp only [intOf]; omega
      · go_ret
        exact ⟨ret_int (by omega), rfl⟩

end Go.Proofs.Ytgojlabkngnkdaa
