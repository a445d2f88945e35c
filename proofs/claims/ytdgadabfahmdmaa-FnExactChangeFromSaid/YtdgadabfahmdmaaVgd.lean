/-
  Whether there are coins and an amount: the model's tests and the program's, by their contracts. Condition: slices of at most 2^40 numbers.
-/
import Derived.Test.YtdgadabfahmdmaaVba
import Derived.Test.YtdgadabfahmdmaaVco
namespace Go.Proofs.Ytdgadabfahmdmaa
open Go.RowKit

set_option maxHeartbeats 1000000 in
theorem cnGood_any (v : Value) (xs : List Int) (w : World) (h : Sv w v xs) (hl : xs.length ≤ 1099511627776) :
    Calls Try.prog 52 #[v] w fun e w' => e = .returned (.bool (cnsB xs)) ∧ Below w.heap.size w w' := by
  have hs := h
  obtain ⟨p, cap, rfl, hx⟩ := h
  clear hx
  by_cases h1 : 1 ≤ xs.length ∧ xs.length ≤ 8
  · have d1 : inB (xs.length : Int) 1 8 = true := inB_iff.2 (by omega)
    have SB := Lib.hid (cnsB_ris h1.1 h1.2)
    clear h1
    go_enter Try.func52, Try.ntmps52
    go_wp2_with (first | (go_at_call 70; refine (l1In_any _ _ _ _).mono ?_; rintro e w' ⟨rfl, rfl⟩) | (go_at_call 82; refine (l1Rising_any _ _ _ _ _ hs hl).mono ?_; rintro e w' ⟨rfl, hb⟩))
    go_ret
    exact ⟨ret_bool SB.out.symm, hb⟩
  · have d1 : inB (xs.length : Int) 1 8 = false := by
      cases h : inB (xs.length : Int) 1 8 with
      | false => rfl
      | true => have := inB_iff.1 h; omega
    have SB : Hid (cnsB xs = false) := Lib.hid (cnsB_no fun g => h1 ⟨g.1, g.2.1⟩)
    clear h1
    go_enter Try.func52, Try.ntmps52
    go_wp2_with (go_at_call 70; refine (l1In_any _ _ _ _).mono ?_; rintro e w' ⟨rfl, rfl⟩)
    go_ret
    exact ⟨ret_bool SB.out.symm, Below.refl _ _⟩

set_option maxHeartbeats 1000000 in
theorem specAreCoins_any (v : Value) (xs : List Int) (w : World) (h : Sp w v xs) (hl : xs.length ≤ 1099511627776) :
    Calls Try.prog 18 #[v] w fun e w' => e = .returned (.bool (cnsB xs)) ∧ Below w.heap.size w w' := by
  have hs := h.sv
  obtain ⟨b, off, cap, rfl, hx⟩ := h
  clear hx
  go_enter Try.func18, Try.ntmps18
  go_wp2_with (go_at_call 52; refine (cnGood_any _ _ _ hs hl).mono ?_; rintro e w' ⟨rfl, hb⟩)
  go_ret
  exact ⟨rfl, hb⟩

theorem isAmount_any (n : Int) (w : World) : Calls Try.prog 55 #[.int .i64 n] w fun e w' => e = .returned (.bool (amB n)) ∧ w = w' := by
  by_cases h : 0 ≤ n
  · have h1 : decide (0 ≤ n) = true := by simpa using h
    go_enter Try.func55, Try.ntmps55
    go_wp2
    go_ret
    exact ⟨by simp [amB, h], rfl⟩
  · have h1 : decide (0 ≤ n) = false := by simpa using h
    go_enter Try.func55, Try.ntmps55
    go_wp2
    go_ret
    exact ⟨ret_bool (by simp [amB]; omega), rfl⟩

theorem inB_am (n : Int) : inB n 0 20000 = amB n := rfl

set_option maxHeartbeats 1000000 in
theorem cnAsked_any (v : Value) (xs : List Int) (a : Int) (w : World) (h : Sv w v xs) (hl : xs.length ≤ 1099511627776) :
    Calls Try.prog 53 #[v, .int .i64 a] w fun e w' => e = .returned (.bool (askC xs a)) ∧ Below w.heap.size w w' := by
  by_cases hg : cnsB xs = true
  · have R : Hid (inB a 0 20000 = askC xs a) := Lib.hid (by simp [askC, hg, inB_am])
    go_enter Try.func53, Try.ntmps53
    go_wp2_with (first | (go_at_call 52; refine (cnGood_any _ _ _ h hl).mono ?_; rw [hg]; rintro e w' ⟨rfl, hb⟩) | (go_at_call 70; refine (l1In_any _ _ _ _).mono ?_; rintro e w' ⟨rfl, rfl⟩))
    go_ret
    exact ⟨ret_bool R.out, hb⟩
  · have hg : cnsB xs = false := by simpa using hg
    have R := Lib.hid (askC_no (a := a) hg)
    go_enter Try.func53, Try.ntmps53
    go_wp2_with (go_at_call 52; refine (cnGood_any _ _ _ h hl).mono ?_; rw [hg]; rintro e w' ⟨rfl, hb⟩)
    go_ret
    exact ⟨ret_bool R.out.symm, hb⟩

set_option maxHeartbeats 2000000 in
theorem areCoins_any (v : Value) (xs : List Int) (w : World) (h : Sv w v xs) (hl : xs.length ≤ 1099511627776) :
    Calls Try.prog 20 #[v] w fun e w' => e = .returned (.bool (cnsB xs)) ∧ w = w' := by
  obtain ⟨p, cap, rfl, hx⟩ := h
  by_cases h0 : xs.length = 0
  · have SB : Hid (cnsB xs = false) := Lib.hid (cnsB_no fun g => by omega)
    have h1 : ((xs.length : Int) == 0) = true := by simp [h0]
    clear hx h0
    go_enter Try.func20, Try.ntmps20
    go_wp2
    go_ret
    exact ⟨ret_bool SB.out.symm, rfl⟩
  · have h1 : ((xs.length : Int) == 0) = false := by rw [beq_eq_false_iff_ne]; omega
    by_cases h8 : xs.length ≤ 8
    · have d8 : decide ((8 : Int) < (xs.length : Int)) = false := by simp; omega
      have hn1 : 1 ≤ xs.length := by omega
      clear h0
      go_enter Try.func20, Try.ntmps20
      go_wp2
      go_loop [3, 16] (fun t i => ∃ k : Nat, k ≤ xs.length ∧ i = .int .i64 k ∧ t = .int .i64 (prevC xs k) ∧ 0 ≤ prevC xs k ∧ RisTo xs 1 1000 k) (fun _ i => xs.length - (intOf i).toNat)
      case atStart => exact ⟨0, Nat.zero_le _, rfl, rfl, Int.le_refl _, fun j hj => by omega, fun j hj => by omega⟩
      case round =>
        obtain ⟨k, hk, rfl, rfl, hp0, ha⟩ := hrel
        by_cases hlt : k < xs.length
        · obtain ⟨b, off, rfl, hbl, hc⟩ := hx (by omega)
          have hcell := hc k hlt
          obtain ⟨x, ex⟩ : ∃ x, xs.getD k 0 = x := ⟨_, rfl⟩
          have N1 : Hid (prevC xs (k + 1) = x) := Lib.hid ex
          have L1 := fun h => Lib.hid (prev_low hlt h)
          have L2 := fun h => Lib.hid (prev_high hlt h)
          have L3 := fun h1 h2 => Lib.hid (prev_succ ha hp0 h1 h2)
          obtain ⟨y, ey⟩ : ∃ y, prevC xs k = y := ⟨_, rfl⟩
          rw [ex] at hcell L1 L2 L3
          rw [ey] at L1 L3 hp0 ⊢
          have L1 := Lib.hid L1
          have L2 := Lib.hid L2
          have L3 := Lib.hid L3
          clear hc hx ex ey ha
          by_cases hxy : x ≤ y
          · go_wp2
            go_ret
            exact ⟨ret_bool (L1.out hxy).out.symm, rfl⟩
          · by_cases hxm : 1000 < x
            · go_wp2
              go_ret
              exact ⟨ret_bool (L2.out hxm).out.symm, rfl⟩
            · go_wp2
              go_round
              case rel => exact ⟨k + 1, by omega, by go_num, by rw [N1.out], by rw [N1.out]; omega, (L3.out hxy hxm).out⟩
              case measure => simp [intOf]; omega
        · clear hx
          go_wp2
          go_ret
          have : k = xs.length := by omega
          subst this
          exact ⟨ret_bool (cnsB_iff.2 ⟨hn1, h8, ha⟩).symm, rfl⟩
    · have SB : Hid (cnsB xs = false) := Lib.hid (cnsB_no fun g => by omega)
      have d8 : decide ((8 : Int) < (xs.length : Int)) = true := by simp; omega
      clear hx h0
      go_enter Try.func20, Try.ntmps20
      go_wp2
      go_ret
      exact ⟨ret_bool SB.out.symm, rfl⟩
theorem implAreCoins_any (v : Value) (xs : List Int) (w : World) (h : Sp w v xs) (hl : xs.length ≤ 1099511627776) :
    Calls Try.prog 20 #[v] w fun e w' => e = .returned (.bool (cnsB xs)) ∧ Below w.heap.size w w' :=
  (areCoins_any v xs w h.sv hl).mono fun _ _ h => ⟨h.1, h.2 ▸ Below.refl _ _⟩
end Go.Proofs.Ytdgadabfahmdmaa
