/-
  A binary card in the model, by contract. Conditions: at most 128 numbers, a card of 0..6.
-/
import Derived.Test.YtgojlabkngnkdaaQmi
namespace Go.Proofs.Ytgojlabkngnkdaa
open Go.RowKit

def cbK (k m : Nat) : List Int := ((List.range m).filter fun (x : Nat) => decide (x / 2 ^ k % 2 = 1)).map fun (x : Nat) => (x : Int)
theorem cbK_zero (k : Nat) : cbK k 0 = [] := by simp [cbK]
theorem cbK_yes {k m : Nat} (h : m / 2 ^ k % 2 = 1) : cbK k (m + 1) = cbK k m ++ [(m : Int)] := by
  unfold cbK; rw [List.range_succ, List.filter_append]; simp [h]
theorem cbK_no {k m : Nat} (h : ¬ m / 2 ^ k % 2 = 1) : cbK k (m + 1) = cbK k m := by
  unfold cbK; rw [List.range_succ, List.filter_append]; simp [h]
theorem cbK_len (k m : Nat) : (cbK k m).length ≤ m := by
  unfold cbK; rw [List.length_map]; exact Nat.le_trans (List.length_filter_le _ _) (by simp)

theorem bin_bit (m k : Nat) : ((m : Int) / 2 ^ k).tmod 2 = ((m / 2 ^ k % 2 : Nat) : Int) := by
  have e : (m : Int) / 2 ^ k = ((m / 2 ^ k : Nat) : Int) := by simp
  rw [e]
  obtain ⟨q, hq⟩ : ∃ q, m / 2 ^ k = q := ⟨_, rfl⟩
  rw [hq, Int.tmod_eq_emod_of_nonneg (by omega)]
  omega

set_option maxHeartbeats 4000000 in
set_option maxRecDepth 100000 in
theorem caBinary_any (n k : Nat) (w : World) (hn : n ≤ 128) (hk : k ≤ 6) :
    Calls Try.prog 39 #[.int .i64 (n : Int), .int .i64 (k : Int)] w fun e w' => ∃ u, e = .returned u ∧ Ow w' w.heap.size u (cbK k n) ∧ Below w.heap.size w w' := by
  go_enter Try.func39, Try.ntmps39
  go_wp2
  go_loopw [5, 6] (fun a i wr => ∃ m : Nat, m ≤ n ∧ i = .int .i64 m ∧ Ow wr w.heap.size a (cbK k m) ∧ Below w.heap.size w wr) (fun _ i _ => n - (intOf i).toNat)
  case atStart => exact ⟨0, by omega, rfl, by rw [cbK_zero]; exact World.ownsRow_nil _ _ _ _, Below.refl _ _⟩
  case round =>
    obtain ⟨m, hm, rfl, ho, hb⟩ := hrel
    have hsz := hb.size
    have hfl := cbK_len k m
    by_cases hlt : m < n
    · have hk0 : (0 : Int) ≤ (k : Int) := by omega
      have hmin : min k 64 = k := by omega
      have bb := bin_bit m k
      by_cases h0 : m / 2 ^ k % 2 = 1
      · have FS := Lib.hid (cbK_yes h0)
        have d : (((m : Int) / 2 ^ k).tmod 2 == 1) = true := by rw [bb, h0]; rfl
        clear bb h0
        go_wp2_with (at_builtin; refine wpList_append_src rfl _ _ rfl w.heap.size _ (cbK k m) rfl (ho.alloc _) _ [(m : Int)] rfl (src_one _ _) (by simp only [List.length_cons, List.length_nil]; omega) (by simp; omega) ?_; intro v' w3 h3 g3)
        have b3 := (hb.alloc hsz _).trans ((ho.alloc _).grown (by simp; omega) g3)
        clear ho g3 hb
        go_roundw
        case rel => exact ⟨m + 1, by omega, by go_num, by rw [FS.out]; exact h3, b3⟩
        case measure => simp only [intOf]; omega
      · have FS := Lib.hid (cbK_no h0)
        have h1 : m / 2 ^ k % 2 = 0 := by omega
        have d : (((m : Int) / 2 ^ k).tmod 2 == 1) = false := by rw [bb, h1]; rfl
        clear bb h0 h1
        go_wp2
        go_roundw
        case rel => exact ⟨m + 1, by omega, by go_num, by rw [FS.out]; exact ho, hb⟩
        case measure => simp only [intOf]; omega
    · have hme : m = n := by omega
      subst hme
      go_wp2
      go_ret
      exact ⟨_, rfl, ho, hb⟩

end Go.Proofs.Ytgojlabkngnkdaa
