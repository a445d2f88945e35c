/-
  Whether there are few pieces and a plan: the model's tests and the program's, by their contracts. Condition: slices of at most 2^20 numbers in all.
-/
import Derived.Test.YtkdnbphopcnpnaaDoorPsme
import Derived.Test.YtkdnbphopcnpnaaDoorPpure
namespace Go.Proofs.YtkdnbphopcnpnaaDoor
open Go.RowKit

theorem few_of (xs : List Int) (h : xs.length ≤ 8) : fewB xs = goodB xs := by simp [fewB, h]
set_option maxHeartbeats 1000000 in
theorem arePaid_any (v : Value) (xs : List Int) (w : World) (h : Sv w v xs) (hl : xs.length ≤ 1099511627776) :
    Calls Tryd.prog 23 #[v] w fun e w' => e = .returned (.bool (fewB xs)) ∧ Below w.heap.size w w' := by
  have hs := h
  obtain ⟨p, cap, rfl, hx⟩ := h
  clear hx
  by_cases h8 : xs.length ≤ 8
  · have FB := Lib.hid (few_of xs h8)
    go_enter Tryd.func23, Tryd.ntmps23
    go_wp2_with (go_at_call 35; refine (arePieces_any _ _ _ hs hl).mono ?_; rintro e w' ⟨rfl, hb⟩)
    go_ret
    exact ⟨ret_bool FB.out.symm, hb⟩
  · have FB := Lib.hid (fewB_long h8)
    go_enter Tryd.func23, Tryd.ntmps23
    go_wp2
    go_ret
    exact ⟨ret_bool FB.out.symm, Below.refl _ _⟩
set_option maxHeartbeats 1000000 in
theorem paFew_any (v : Value) (xs : List Int) (w : World) (h : Sv w v xs) (hl : xs.length ≤ 1099511627776) :
    Calls Tryd.prog 12 #[v] w fun e w' => e = .returned (.bool (fewB xs)) ∧ Below w.heap.size w w' := by
  have hs := h
  obtain ⟨p, cap, rfl, hx⟩ := h
  clear hx
  by_cases hg : goodB xs = true
  · have FB : Hid (fewB xs = decide (xs.length ≤ 8)) := Lib.hid (by simp [fewB, hg])
    go_enter Tryd.func12, Tryd.ntmps12
    go_wp2_with (go_at_call 20; refine (piGood_any _ _ _ hs hl).mono ?_; rintro e w' ⟨rfl, hb⟩)
    go_ret
    exact ⟨ret_bool (by rw [FB.out]; by_cases h8 : xs.length ≤ 8 <;> simp [h8] <;> omega), hb⟩
  · have hg : goodB xs = false := by simpa using hg
    have FB := Lib.hid (fewB_no hg)
    go_enter Tryd.func12, Tryd.ntmps12
    go_wp2_with (go_at_call 20; refine (piGood_any _ _ _ hs hl).mono ?_; rintro e w' ⟨rfl, hb⟩)
    go_ret
    exact ⟨ret_bool FB.out.symm, hb⟩

set_option maxHeartbeats 2000000 in
set_option maxRecDepth 20000 in
theorem l1Rising_any (v : Value) (xs : List Int) (lo hi : Int) (w : World) (h : Sv w v xs) (hl : xs.length ≤ 1099511627776) :
    Calls Tryd.prog 21 #[v, .int .i64 lo, .int .i64 hi] w fun e w' => e = .returned (.bool (risB xs lo hi)) ∧ Below w.heap.size w w' := by
  obtain ⟨p, cap, rfl, hx⟩ := h
  go_enter Tryd.func21, Tryd.ntmps21
  go_wp2
  go_loopw [11] (fun i wr => ∃ k : Nat, k ≤ xs.length ∧ i = .int .i64 k ∧ RisTo xs lo hi k ∧ Below w.heap.size w wr) (fun i _ => xs.length - (intOf i).toNat)
  case atStart => exact ⟨0, Nat.zero_le _, rfl, ⟨fun j hj => by omega, fun j hj => by omega⟩, Below.refl _ _⟩
  case round =>
    obtain ⟨k, hk, rfl, ha, hb⟩ := hrel
    by_cases hlt : k < xs.length
    · obtain ⟨b, off, rfl, hbl, hc⟩ := hx (by omega)
      have hcell := (hb.cell (p := ⟨b, off + k, none⟩) hbl).trans (hc k hlt)
      obtain ⟨x, ex⟩ : ∃ x, xs.getD k 0 = x := ⟨_, rfl⟩
      rw [ex] at hcell
      have EX := Lib.hid ex
      by_cases hin : inB x lo hi = true
      · have hxb := inB_iff.1 hin
        by_cases hk0 : k = 0
        · subst hk0
          have hcell : wr.cell? ⟨b, off, none⟩ = some (.int .i64 x) := by simpa using hcell
          clear hc hx ex hk
          go_wp2_with (go_at_call 34; refine (l1In_any _ _ _ _).mono ?_; rintro e w' ⟨rfl, rfl⟩)
          go_roundw
          case rel => exact ⟨1, by omega, by go_num, ha.succ (by rw [EX.out]; exact hxb) (fun m e => by omega), hb⟩
          case measure => simp [intOf]; omega
        · obtain ⟨m, rfl⟩ : ∃ m, k = m + 1 := ⟨k - 1, by omega⟩
          have c1 : wr.cell? ⟨b, off + m, none⟩ = some (.int .i64 (xs.getD m 0)) := (hb.cell (p := ⟨b, off + m, none⟩) hbl).trans (hc m (by omega))
          obtain ⟨y, ey⟩ : ∃ y, xs.getD m 0 = y := ⟨_, rfl⟩
          rw [ey] at c1
          have EY := Lib.hid ey
          clear hc hx ex ey hk hk0
          have hi0 : (0 : Int) ≤ m := by omega
          have hi1 : (m : Int) < xs.length := by omega
          have d1 : decide ((0 : Int) < (m : Int) + 1) = true := by simp only [decide_eq_true_eq]; omega
          by_cases hyx : x ≤ y
          · go_wp2_with (go_at_call 34; refine (l1In_any _ _ _ _).mono ?_; rintro e w' ⟨rfl, rfl⟩)
            go_ret
            exact ⟨ret_bool (risB_step hlt (by rw [EX.out, EY.out]; exact hyx)).symm, hb⟩
          · go_wp2_with (go_at_call 34; refine (l1In_any _ _ _ _).mono ?_; rintro e w' ⟨rfl, rfl⟩)
            go_roundw
            case rel => exact ⟨m + 2, by omega, by go_num, ha.succ (by rw [EX.out]; exact hxb) (fun j e => by obtain rfl : j = m := by omega
                                                                                                              rw [EX.out, EY.out]; omega), hb⟩
            case measure => simp [intOf]; omega
      · have hin : inB x lo hi = false := by simpa using hin
        clear hc hx ex
        go_wp2_with (go_at_call 34; refine (l1In_any _ _ _ _).mono ?_; rintro e w' ⟨rfl, rfl⟩)
        go_ret
        exact ⟨ret_bool (risB_out hlt (by rw [EX.out]; simp [inB] at hin; omega)).symm, hb⟩
    · clear hx
      go_wp2
      go_ret
      have : k = xs.length := by omega
      subst this
      exact ⟨ret_bool (risB_yes ha).symm, hb⟩

set_option maxHeartbeats 2000000 in
set_option maxRecDepth 20000 in
theorem paPlan_any (v u : Value) (xs : List Int) (pl : List (List Int)) (w : World) (hv : Sv w v xs) (hu : Svv w u pl) (hl : xs.length ≤ 1099511627776) (hf : Few2 pl) :
    Calls Tryd.prog 13 #[v, u] w fun e w' => e = .returned (.bool (planB xs.length pl)) ∧ Below w.heap.size w w' := by
  obtain ⟨q, cap1, rfl, hq⟩ := hv
  obtain ⟨p, cap, rfl, hx⟩ := hu
  clear hq
  by_cases h60 : pl.length ≤ 60
  · have HF := Lib.hid hf
    clear hf
    go_enter Tryd.func13, Tryd.ntmps13
    go_wp2
    go_loopw [12] (fun i wr => ∃ k : Nat, k ≤ pl.length ∧ i = .int .i64 k ∧ Hid (PlanTo xs.length pl k) ∧ Below w.heap.size w wr) (fun i _ => pl.length - (intOf i).toNat)
    case atStart => exact ⟨0, Nat.zero_le _, rfl, Lib.hid (fun j hj => by omega), Below.refl _ _⟩
    case round =>
      obtain ⟨k, hk, rfl, HA, hb⟩ := hrel
      by_cases hlt : k < pl.length
      · obtain ⟨b, off, rfl, hbl, hc⟩ := hx (by omega)
        obtain ⟨u0, hc0, hs0⟩ := hc k hlt
        have hcell := (hb.cell (p := ⟨b, off + k, none⟩) hbl).trans hc0
        have hs1 := hs0.below hb (Nat.le_refl _)
        have hlen := HF.out.row hlt
        clear hc hx hc0 hs0
        by_cases hr : risB (rowL pl k) 0 ((xs.length : Int) - 1) = true
        · go_wp2_with (go_at_call 21; refine (l1Rising_any _ _ _ _ _ hs1 (by omega)).mono ?_; rintro e w1 ⟨rfl, b1⟩)
          go_roundw
          case rel => exact ⟨k + 1, by omega, by go_num, Lib.hid (HA.out.succ hr), nxt hb b1⟩
          case measure => simp [intOf]; omega
        · have hr : risB (rowL pl k) 0 ((xs.length : Int) - 1) = false := by simpa using hr
          go_wp2_with (go_at_call 21; refine (l1Rising_any _ _ _ _ _ hs1 (by omega)).mono ?_; rintro e w1 ⟨rfl, b1⟩)
          go_ret
          exact ⟨ret_bool (planB_row hlt hr).symm, nxt hb b1⟩
      · clear hx
        go_wp2
        go_ret
        have : k = pl.length := by omega
        subst this
        exact ⟨ret_bool (planB_yes ⟨h60, HA.out⟩).symm, hb⟩
  · have PB := Lib.hid (planB_long (n := xs.length) h60)
    clear hx
    go_enter Tryd.func13, Tryd.ntmps13
    go_wp2
    go_ret
    exact ⟨ret_bool PB.out.symm, Below.refl _ _⟩

set_option maxHeartbeats 1000000 in
theorem areSomeOf_any (v : Value) (xs : List Int) (m : Int) (w : World) (h : Sv w v xs) (hl : xs.length ≤ 1099511627776) (hm : m ≤ 1099511627776) :
    Calls Tryd.prog 36 #[.int .i64 m, v] w fun e w' => e = .returned (.bool (risB xs 0 (m - 1))) ∧ w = w' := by
  obtain ⟨p, cap, rfl, hx⟩ := h
  go_enter Tryd.func36, Tryd.ntmps36
  go_wp2
  go_loop [5, 10] (fun f i => ∃ (k : Nat) (fr : Int), k ≤ xs.length ∧ i = .int .i64 k ∧ f = .int .i64 fr ∧ fr = freeAt xs k ∧ RisTo xs 0 (m - 1) k ∧ (0 < k → fr ≤ m) ∧ 0 ≤ fr) (fun _ i => xs.length - (intOf i).toNat)
  case atStart => exact ⟨0, 0, Nat.zero_le _, rfl, rfl, rfl, ⟨fun j hj => by omega, fun j hj => by omega⟩, fun h => by omega, by omega⟩
  case round =>
    obtain ⟨k, fr, hk, rfl, rfl, hfr, ha, hfm, hf0⟩ := hrel
    have FR := Lib.hid hfr
    clear hfr
    by_cases hlt : k < xs.length
    · obtain ⟨b, off, rfl, hbl, hc⟩ := hx (by omega)
      have hcell := hc k hlt
      obtain ⟨x, ex⟩ : ∃ x, xs.getD k 0 = x := ⟨_, rfl⟩
      rw [ex] at hcell
      have EX := Lib.hid ex
      clear hc hx ex
      by_cases h1 : x < fr
      · have d1 : decide (x < fr) = true := by simpa using h1
        go_wp2
        go_ret
        exact ⟨ret_bool (by rw [free_low hlt (by rw [EX.out, ← FR.out]; exact h1)]), rfl⟩
      · have d1 : decide (x < fr) = false := by simpa using h1
        by_cases h2 : m ≤ x
        · go_wp2
          go_ret
          exact ⟨ret_bool (by rw [risB_out hlt (.inr (by rw [EX.out]; omega))]), rfl⟩
        · go_wp2
          go_round
          case rel => exact ⟨k + 1, x + 1, by omega, by go_num, by go_num, by rw [free_next, EX.out], free_succ ha (by rw [EX.out, ← FR.out]; omega) (by rw [EX.out]; omega) (by rw [← FR.out]; omega), by omega, by omega⟩
          case measure => simp [intOf]; omega
    · clear hx
      go_wp2
      go_ret
      have : k = xs.length := by omega
      subst this
      exact ⟨ret_bool (by rw [risB_yes ha]), rfl⟩

set_option maxHeartbeats 2000000 in
set_option maxRecDepth 20000 in
theorem isPlan_any (v u : Value) (xs : List Int) (pl : List (List Int)) (w : World) (hv : Sv w v xs) (hu : Svv w u pl) (hl : xs.length ≤ 1099511627776) (hf : Few2 pl) :
    Calls Tryd.prog 24 #[v, u] w fun e w' => e = .returned (.bool (planB xs.length pl)) ∧ w = w' := by
  obtain ⟨q, cap1, rfl, hq⟩ := hv
  obtain ⟨p, cap, rfl, hx⟩ := hu
  clear hq
  by_cases h60 : pl.length ≤ 60
  · have HF := Lib.hid hf
    have SO := Lib.hid (fun (v : Value) (ys : List Int) (h : Sv w v ys) (hy : ys.length ≤ 1099511627776) => areSomeOf_any v ys (xs.length : Int) w h hy (by omega))
    clear hf
    go_enter Tryd.func24, Tryd.ntmps24
    go_wp2
    go_loop [12] (fun i => ∃ k : Nat, k ≤ pl.length ∧ i = .int .i64 k ∧ Hid (PlanTo xs.length pl k)) (fun i => pl.length - (intOf i).toNat)
    case atStart => exact ⟨0, Nat.zero_le _, rfl, Lib.hid (fun j hj => by omega)⟩
    case round =>
      obtain ⟨k, hk, rfl, HA⟩ := hrel
      by_cases hlt : k < pl.length
      · obtain ⟨b, off, rfl, hbl, hc⟩ := hx (by omega)
        obtain ⟨u0, hcell, hs⟩ := hc k hlt
        have hlen := HF.out.row hlt
        have S1 := Lib.hid (SO.out _ _ hs (by omega))
        obtain ⟨p2, cap2, rfl, -⟩ := hs
        clear hc hx
        obtain ⟨ys, eys⟩ : ∃ ys, rowL pl k = ys := ⟨_, rfl⟩
        rw [eys] at hcell S1
        have EY := Lib.hid eys
        clear eys hlen SO
        by_cases hr : risB ys 0 ((xs.length : Int) - 1) = true
        · rw [hr] at S1
          go_wp2_with (go_at_call 36; refine S1.out.mono ?_; rintro e w' ⟨rfl, rfl⟩)
          go_round
          case rel => exact ⟨k + 1, by omega, by go_num, Lib.hid (HA.out.succ (by show risB (rowL pl k) _ _ = _; rw [EY.out]; exact hr))⟩
          case measure => simp [intOf]; omega
        · have hr : risB ys 0 ((xs.length : Int) - 1) = false := by simpa using hr
          rw [hr] at S1
          go_wp2_with (go_at_call 36; refine S1.out.mono ?_; rintro e w' ⟨rfl, rfl⟩)
          go_ret
          exact ⟨ret_bool (planB_row hlt (by show risB (rowL pl k) _ _ = _; rw [EY.out]; exact hr)).symm, rfl⟩
      · clear hx
        go_wp2
        go_ret
        have : k = pl.length := by omega
        subst this
        exact ⟨ret_bool (planB_yes ⟨h60, HA.out⟩).symm, rfl⟩
  · have PB := Lib.hid (planB_long (n := xs.length) h60)
    clear hx
    go_enter Tryd.func24, Tryd.ntmps24
    go_wp2
    go_ret
    exact ⟨ret_bool PB.out.symm, rfl⟩

end Go.Proofs.YtkdnbphopcnpnaaDoor
