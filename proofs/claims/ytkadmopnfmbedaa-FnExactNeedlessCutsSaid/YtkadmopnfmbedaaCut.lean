/-
  Whether numbers are cuts of a chain: the model's test and the program's test answer alike, by their contracts; the law on AreCuts, walked. Condition: slices of at most 2^40 numbers.
-/
import Derived.Test.YtkadmopnfmbedaaGood
import Derived.Test.YtkadmopnfmbedaaCpure
import Derived.Test.YtkadmopnfmbedaaCat
namespace Go.Proofs.Ytkadmopnfmbedaa
open Go.RowKit

theorem isChain_any (m : Int) (w : World) : Calls Try.prog 54 #[.int .i64 m] w fun e w' => e = .returned (.bool (inB m 1 1000)) ∧ w = w' := by
  by_cases h : 1 ≤ m
  · have h1 : decide (1 ≤ m) = true := by simpa using h
    go_enter Try.func54, Try.ntmps54
    go_wp2
    go_ret
    exact ⟨by simp [inB, h], rfl⟩
  · have h1 : decide (1 ≤ m) = false := by simpa using h
    go_enter Try.func54, Try.ntmps54
    go_wp2
    go_ret
    exact ⟨ret_bool (by simp [inB]; omega), rfl⟩
theorem chLinks_any (m : Int) (w : World) : Calls Try.prog 50 #[.int .i64 m] w fun e w' => e = .returned (.bool (inB m 1 1000)) ∧ w = w' := by
  go_enter Try.func50, Try.ntmps50
  go_wp2_with (go_at_call 39; refine (l1In_any _ _ _ _).mono ?_; rintro e w' ⟨rfl, rfl⟩)
  go_ret
  exact ⟨rfl, rfl⟩
theorem cutsB_out {m : Int} {xs : List Int} (h : inB m 1 1000 = false) : cutsB m xs = false := cutsB_no fun g => by
  rw [inB_iff.2 g.1] at h; cases h
theorem cutsB_long {m : Int} {xs : List Int} (h : ¬ xs.length ≤ 9) : cutsB m xs = false := cutsB_no fun g => h g.2.1

set_option maxHeartbeats 1000000 in
theorem l1Rising_any (v : Value) (xs : List Int) (lo hi : Int) (w : World) (h : Sv w v xs) (hl : xs.length ≤ 1099511627776) :
    Calls Try.prog 51 #[v, .int .i64 lo, .int .i64 hi] w fun e w' => e = .returned (.bool (risB xs lo hi)) ∧ Below w.heap.size w w' := by
  obtain ⟨p, cap, rfl, hx⟩ := h
  go_enter Try.func51, Try.ntmps51
  go_wp2
  go_loopw [11] (fun i wr => ∃ k : Nat, k ≤ xs.length ∧ i = .int .i64 k ∧ RisTo xs lo hi k ∧ Below w.heap.size w wr) (fun i _ => xs.length - (intOf i).toNat)
  case atStart => exact ⟨0, Nat.zero_le _, rfl, ⟨fun j hj => by omega, fun j hj => by omega⟩, Below.refl _ _⟩
  case round =>
    obtain ⟨k, hk, rfl, ha, hb⟩ := hrel
    by_cases hlt : k < xs.length
    · obtain ⟨b, off, rfl, hbl, hc⟩ := hx (by omega)
      have hcell := (hb.cell (p := ⟨b, off + k, none⟩) hbl).trans (hc k hlt)
      obtain ⟨x, ex⟩ : ∃ x, xs.getD k 0 = x := ⟨_, rfl⟩
      rw [ex] at hcell
      have EX := Lib.hid ex
      by_cases hin : inB x lo hi = true
      · have hxb := inB_iff.1 hin
        by_cases hk0 : k = 0
        · subst hk0
          have hcell : wr.cell? ⟨b, off, none⟩ = some (.int .i64 x) := by simpa using hcell
          clear hc hx ex hk
          go_wp2_with (go_at_call 39; refine (l1In_any _ _ _ _).mono ?_; rintro e w' ⟨rfl, rfl⟩)
          go_roundw
          case rel => exact ⟨1, by omega, by go_num, ha.succ (by rw [EX.out]; exact hxb) (fun m e => by omega), hb⟩
          case measure => simp [intOf]; omega
        · obtain ⟨m, rfl⟩ : ∃ m, k = m + 1 := ⟨k - 1, by omega⟩
          have c1 : wr.cell? ⟨b, off + m, none⟩ = some (.int .i64 (xs.getD m 0)) := (hb.cell (p := ⟨b, off + m, none⟩) hbl).trans (hc m (by omega))
          obtain ⟨y, ey⟩ : ∃ y, xs.getD m 0 = y := ⟨_, rfl⟩
          rw [ey] at c1
          have EY := Lib.hid ey
          clear hc hx ex ey hk hk0
          have hi0 : (0 : Int) ≤ m := by omega
          have hi1 : (m : Int) < xs.length := by omega
          have d1 : decide ((0 : Int) < (m : Int) + 1) = true := by simp only [decide_eq_true_eq]; omega
          by_cases hyx : x ≤ y
          · go_wp2_with (go_at_call 39; refine (l1In_any _ _ _ _).mono ?_; rintro e w' ⟨rfl, rfl⟩)
            go_ret
            exact ⟨ret_bool (risB_step hlt (by rw [EX.out, EY.out]; exact hyx)).symm, hb⟩
          · go_wp2_with (go_at_call 39; refine (l1In_any _ _ _ _).mono ?_; rintro e w' ⟨rfl, rfl⟩)
            go_roundw
            case rel => exact ⟨m + 2, by omega, by go_num, ha.succ (by rw [EX.out]; exact hxb) (fun j e => by obtain rfl : j = m := by omega
                                                                                                              rw [EX.out, EY.out]; omega), hb⟩
            case measure => simp [intOf]; omega
      · have hin : inB x lo hi = false := by simpa using hin
        clear hc hx ex
        go_wp2_with (go_at_call 39; refine (l1In_any _ _ _ _).mono ?_; rintro e w' ⟨rfl, rfl⟩)
        go_ret
        exact ⟨ret_bool (risB_out hlt (by rw [EX.out]; simp [inB] at hin; omega)).symm, hb⟩
    · clear hx
      go_wp2
      go_ret
      have : k = xs.length := by omega
      subst this
      exact ⟨ret_bool (risB_yes ha).symm, hb⟩

set_option maxHeartbeats 1000000 in
theorem chCuts_any (m : Int) (v : Value) (xs : List Int) (w : World) (h : Sv w v xs) (hl : xs.length ≤ 1099511627776) :
    Calls Try.prog 28 #[.int .i64 m, v] w fun e w' => e = .returned (.bool (cutsB m xs)) ∧ Below w.heap.size w w' := by
  have hs := h
  obtain ⟨p, cap, rfl, hx⟩ := h
  clear hx
  by_cases hm : inB m 1 1000 = true
  · have hmb := inB_iff.1 hm
    by_cases h9 : xs.length ≤ 9
    · have CB := Lib.hid (cutsB_ris hmb h9)
      go_enter Try.func28, Try.ntmps28
      go_wp2_with (first | (go_at_call 50; refine (chLinks_any _ _).mono ?_; rintro e w' ⟨rfl, rfl⟩) | (go_at_call 51; refine (l1Rising_any _ _ _ _ _ hs hl).mono ?_; rintro e w' ⟨rfl, hb⟩))
      go_ret
      exact ⟨ret_bool CB.out.symm, hb⟩
    · have CB := Lib.hid (cutsB_long (m := m) h9)
      go_enter Try.func28, Try.ntmps28
      go_wp2_with (go_at_call 50; refine (chLinks_any _ _).mono ?_; rintro e w' ⟨rfl, rfl⟩)
      go_ret
      exact ⟨ret_bool CB.out.symm, Below.refl _ _⟩
  · have hm : inB m 1 1000 = false := by simpa using hm
    have CB := Lib.hid (cutsB_out (xs := xs) hm)
    go_enter Try.func28, Try.ntmps28
    go_wp2_with (go_at_call 50; refine (chLinks_any _ _).mono ?_; rintro e w' ⟨rfl, rfl⟩)
    go_ret
    exact ⟨ret_bool CB.out.symm, Below.refl _ _⟩

set_option maxHeartbeats 1000000 in
theorem areSomeOf_any (v : Value) (xs : List Int) (m : Int) (w : World) (h : Sv w v xs) (hl : xs.length ≤ 1099511627776) (hm : m ≤ 1099511627776) :
    Calls Try.prog 55 #[.int .i64 m, v] w fun e w' => e = .returned (.bool (risB xs 0 (m - 1))) ∧ w = w' := by
  obtain ⟨p, cap, rfl, hx⟩ := h
  go_enter Try.func55, Try.ntmps55
  go_wp2
  go_loop [5, 10] (fun f i => ∃ (k : Nat) (fr : Int), k ≤ xs.length ∧ i = .int .i64 k ∧ f = .int .i64 fr ∧ fr = freeAt xs k ∧ RisTo xs 0 (m - 1) k ∧ (0 < k → fr ≤ m) ∧ 0 ≤ fr) (fun _ i => xs.length - (intOf i).toNat)
  case atStart => exact ⟨0, 0, Nat.zero_le _, rfl, rfl, rfl, ⟨fun j hj => by omega, fun j hj => by omega⟩, fun h => by omega, by omega⟩
  case round =>
    obtain ⟨k, fr, hk, rfl, rfl, hfr, ha, hfm, hf0⟩ := hrel
    have FR := Lib.hid hfr
    clear hfr
    by_cases hlt : k < xs.length
    · obtain ⟨b, off, rfl, hbl, hc⟩ := hx (by omega)
      have hcell := hc k hlt
      obtain ⟨x, ex⟩ : ∃ x, xs.getD k 0 = x := ⟨_, rfl⟩
      rw [ex] at hcell
      have EX := Lib.hid ex
      clear hc hx ex
      by_cases h1 : x < fr
      · have d1 : decide (x < fr) = true := by simpa using h1
        go_wp2
        go_ret
        exact ⟨ret_bool (by rw [free_low hlt (by rw [EX.out, ← FR.out]; exact h1)]), rfl⟩
      · have d1 : decide (x < fr) = false := by simpa using h1
        by_cases h2 : m ≤ x
        · go_wp2
          go_ret
          exact ⟨ret_bool (by rw [risB_out hlt (.inr (by rw [EX.out]; omega))]), rfl⟩
        · go_wp2
          go_round
          case rel => exact ⟨k + 1, x + 1, by omega, by go_num, by go_num, by rw [free_next, EX.out], free_succ ha (by rw [EX.out, ← FR.out]; omega) (by rw [EX.out]; omega) (by rw [← FR.out]; omega), by omega, by omega⟩
          case measure => simp [intOf]; omega
    · clear hx
      go_wp2
      go_ret
      have : k = xs.length := by omega
      subst this
      exact ⟨ret_bool (by rw [risB_yes ha]), rfl⟩

set_option maxHeartbeats 1000000 in
theorem implAreCuts_any (v : Value) (xs : List Int) (m : Int) (w : World) (h : Sv w v xs) (hl : xs.length ≤ 1099511627776) :
    Calls Try.prog 30 #[.int .i64 m, v] w fun e w' => e = .returned (.bool (cutsB m xs)) ∧ Below w.heap.size w w' := by
  by_cases hm : inB m 1 1000 = true
  · have hmb := inB_iff.1 hm
    by_cases h9 : xs.length ≤ 9
    · have CB := Lib.hid (cutsB_ris hmb h9)
      have SO := Lib.hid (areSomeOf_any v xs m w h hl (by omega))
      have d9 : decide ((xs.length : Int) ≤ 9) = true := by simp; omega
      obtain ⟨p, cap, rfl, -⟩ := h
      obtain ⟨r, er⟩ : ∃ r, risB xs 0 (m - 1) = r := ⟨_, rfl⟩
      rw [er] at SO CB
      clear er
      go_enter Try.func30, Try.ntmps30
      go_wp2_with (first
        | (go_at_call 54; refine (isChain_any _ _).mono ?_; rintro e w' ⟨rfl, rfl⟩)
        | (go_at_call 55; refine SO.out.mono ?_; rintro e w' ⟨rfl, rfl⟩))
      go_ret
      exact ⟨ret_bool CB.out.symm, Below.refl _ _⟩
    · have CB := Lib.hid (cutsB_long (m := m) h9)
      have d9 : decide ((xs.length : Int) ≤ 9) = false := by simp; omega
      obtain ⟨p, cap, rfl, -⟩ := h
      go_enter Try.func30, Try.ntmps30
      go_wp2_with (go_at_call 54; refine (isChain_any _ _).mono ?_; rintro e w' ⟨rfl, rfl⟩)
      go_ret
      exact ⟨ret_bool CB.out.symm, Below.refl _ _⟩
  · have hm : inB m 1 1000 = false := by simpa using hm
    have CB := Lib.hid (cutsB_out (xs := xs) hm)
    obtain ⟨p, cap, rfl, -⟩ := h
    go_enter Try.func30, Try.ntmps30
    go_wp2_with (go_at_call 54; refine (isChain_any _ _).mono ?_; rintro e w' ⟨rfl, rfl⟩)
    go_ret
    exact ⟨ret_bool CB.out.symm, Below.refl _ _⟩

end Go.Proofs.Ytkadmopnfmbedaa
