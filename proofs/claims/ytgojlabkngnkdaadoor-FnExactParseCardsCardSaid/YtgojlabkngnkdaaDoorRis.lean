/-
  Whether numbers increase within bounds: the model's test, by its contract. Condition: slices of at most 2^40 numbers.
-/
import Derived.Test.YtgojlabkngnkdaaDoorCat
import Derived.Test.YtgojlabkngnkdaaDoorRpu
namespace Go.Proofs.YtgojlabkngnkdaaDoor
open Go.RowKit

theorem src_one (w : World) (n : Int) : Src (w.alloc (.cells #[.int .i64 n] 3)) (.slice (some ⟨w.heap.size, 0, none⟩) 1 1) [n] := by
  refine .inr ⟨w.heap.size, 0, 1, rfl, by simp, fun j hj => ?_⟩
  obtain rfl : j = 0 := by simpa using hj
  have h := heap_alloc_new w (.cells #[.int .i64 n] 3)
  simp only [World.cell?, h]
  rfl
set_option maxHeartbeats 2000000 in
set_option maxRecDepth 20000 in
theorem l1Rising_any (v : Value) (xs : List Int) (lo hi : Int) (w : World) (h : Sv w v xs) (hl : xs.length ≤ 1099511627776) :
    Calls Tryd.prog 53 #[v, .int .i64 lo, .int .i64 hi] w fun e w' => e = .returned (.bool (risB xs lo hi)) ∧ Below w.heap.size w w' := by
  obtain ⟨p, cap, rfl, hx⟩ := h
  go_enter Tryd.func53, Tryd.ntmps53
  go_wp2
  go_loopw [11] (fun i wr => ∃ k : Nat, k ≤ xs.length ∧ i = .int .i64 k ∧ RisTo xs lo hi k ∧ Below w.heap.size w wr) (fun i _ => xs.length - (intOf i).toNat)
  case atStart => exact ⟨0, Nat.zero_le _, rfl, ⟨fun j hj => by omega, fun j hj => by omega⟩, Below.refl _ _⟩
  case round =>
    obtain ⟨k, hk, rfl, ha, hb⟩ := hrel
    by_cases hlt : k < xs.length
    · obtain ⟨b, off, rfl, hbl, hc⟩ := hx (by omega)
      have hcell := (hb.cell (p := ⟨b, off + k, none⟩) hbl).trans (hc k hlt)
      obtain ⟨x, ex⟩ : ∃ x, xs.getD k 0 = x := ⟨_, rfl⟩
      rw [ex] at hcell
      have EX := Lib.hid ex
      by_cases hin : inB x lo hi = true
      · have hxb := inB_iff.1 hin
        by_cases hk0 : k = 0
        · subst hk0
          have hcell : wr.cell? ⟨b, off, none⟩ = some (.int .i64 x) := by simpa using hcell
          clear hc hx ex hk
          go_wp2_with (go_at_call 52; refine (l1In_any _ _ _ _).mono ?_; rintro e w' ⟨rfl, rfl⟩)
          go_roundw
          case rel => exact ⟨1, by omega, by go_num, ha.succ (by rw [EX.out]; exact hxb) (fun m e => by omega), hb⟩
          case measure => simp [intOf]; omega
        · obtain ⟨m, rfl⟩ : ∃ m, k = m + 1 := ⟨k - 1, by omega⟩
          have c1 : wr.cell? ⟨b, off + m, none⟩ = some (.int .i64 (xs.getD m 0)) := (hb.cell (p := ⟨b, off + m, none⟩) hbl).trans (hc m (by omega))
          obtain ⟨y, ey⟩ : ∃ y, xs.getD m 0 = y := ⟨_, rfl⟩
          rw [ey] at c1
          have EY := Lib.hid ey
          clear hc hx ex ey hk hk0
          have hi0 : (0 : Int) ≤ m := by omega
          have hi1 : (m : Int) < xs.length := by omega
          have d1 : decide ((0 : Int) < (m : Int) + 1) = true := by simp only [decide_eq_true_eq]; omega
          by_cases hyx : x ≤ y
          · go_wp2_with (go_at_call 52; refine (l1In_any _ _ _ _).mono ?_; rintro e w' ⟨rfl, rfl⟩)
            go_ret
            exact ⟨ret_bool (risB_step hlt (by rw [EX.out, EY.out]; exact hyx)).symm, hb⟩
          · go_wp2_with (go_at_call 52; refine (l1In_any _ _ _ _).mono ?_; rintro e w' ⟨rfl, rfl⟩)
            go_roundw
            case rel => exact ⟨m + 2, by omega, by go_num, ha.succ (by rw [EX.out]; exact hxb) (fun j e => by obtain rfl : j = m := by omega
                                                                                                              rw [EX.out, EY.out]; omega), hb⟩
            case measure => simp [intOf]; omega
      · have hin : inB x lo hi = false := by simpa using hin
        clear hc hx ex
        go_wp2_with (go_at_call 52; refine (l1In_any _ _ _ _).mono ?_; rintro e w' ⟨rfl, rfl⟩)
        go_ret
        exact ⟨ret_bool (risB_out hlt (by rw [EX.out]; simp [inB] at hin; omega)).symm, hb⟩
    · clear hx
      go_wp2
      go_ret
      have : k = xs.length := by omega
      subst this
      exact ⟨ret_bool (risB_yes ha).symm, hb⟩
end Go.Proofs.YtgojlabkngnkdaaDoor
