/-
  Whether there are stamps, a room, a value: the model's tests, by their contracts. Condition: slices of at most 2^40 numbers.
-/
import Derived.Test.YtmllokooceghiaaCat4
import Derived.Test.YtmllokooceghiaaSpu
namespace Go.Proofs.Ytmllokooceghiaa
open Go.RowKit

theorem src_one (w : World) (n : Int) : Src (w.alloc (.cells #[.int .i64 n] 3)) (.slice (some ⟨w.heap.size, 0, none⟩) 1 1) [n] := by
  refine .inr ⟨w.heap.size, 0, 1, rfl, by simp, fun j hj => ?_⟩
  obtain rfl : j = 0 := by simpa using hj
  have h := heap_alloc_new w (.cells #[.int .i64 n] 3)
  simp only [World.cell?, h]
  rfl
theorem least_any (a b : Int) (w : World) : Calls Try.prog 63 #[.int .i64 a, .int .i64 b] w fun e w' => e = .returned (.int .i64 (min a b)) ∧ w = w' := by
  by_cases h : a < b
  · go_enter Try.func63, Try.ntmps63
    go_wp2
    go_ret
    exact ⟨ret_int (by omega), rfl⟩
  · go_enter Try.func63, Try.ntmps63
    go_wp2
    go_ret
    exact ⟨ret_int (by omega), rfl⟩

set_option maxHeartbeats 2000000 in
set_option maxRecDepth 20000 in
theorem l1Rising_any (v : Value) (xs : List Int) (lo hi : Int) (w : World) (h : Sv w v xs) (hl : xs.length ≤ 1099511627776) :
    Calls Try.prog 70 #[v, .int .i64 lo, .int .i64 hi] w fun e w' => e = .returned (.bool (risB xs lo hi)) ∧ Below w.heap.size w w' := by
  obtain ⟨p, cap, rfl, hx⟩ := h
  go_enter Try.func70, Try.ntmps70
  go_wp2
  go_loopw [11] (fun i wr => ∃ k : Nat, k ≤ xs.length ∧ i = .int .i64 k ∧ RisTo xs lo hi k ∧ Below w.heap.size w wr) (fun i _ => xs.length - (intOf i).toNat)
  case atStart => exact ⟨0, Nat.zero_le _, rfl, ⟨fun j hj => by omega, fun j hj => by omega⟩, Below.refl _ _⟩
  case round =>
    obtain ⟨k, hk, rfl, ha, hb⟩ := hrel
    by_cases hlt : k < xs.length
    · obtain ⟨b, off, rfl, hbl, hc⟩ := hx (by omega)
      have hcell := (hb.cell (p := ⟨b, off + k, none⟩) hbl).trans (hc k hlt)
      obtain ⟨x, ex⟩ : ∃ x, xs.getD k 0 = x := ⟨_, rfl⟩
      rw [ex] at hcell
      have EX := Lib.hid ex
      by_cases hin : inB x lo hi = true
      · have hxb := inB_iff.1 hin
        by_cases hk0 : k = 0
        · subst hk0
          have hcell : wr.cell? ⟨b, off, none⟩ = some (.int .i64 x) := by simpa using hcell
          clear hc hx ex hk
          go_wp2_with (go_at_call 62; refine (l1In_any _ _ _ _).mono ?_; rintro e w' ⟨rfl, rfl⟩)
          go_roundw
          case rel => exact ⟨1, by omega, by go_num, ha.succ (by rw [EX.out]; exact hxb) (fun m e => by omega), hb⟩
          case measure => simp [intOf]; omega
        · obtain ⟨m, rfl⟩ : ∃ m, k = m + 1 := ⟨k - 1, by omega⟩
          have c1 : wr.cell? ⟨b, off + m, none⟩ = some (.int .i64 (xs.getD m 0)) := (hb.cell (p := ⟨b, off + m, none⟩) hbl).trans (hc m (by omega))
          obtain ⟨y, ey⟩ : ∃ y, xs.getD m 0 = y := ⟨_, rfl⟩
          rw [ey] at c1
          have EY := Lib.hid ey
          clear hc hx ex ey hk hk0
          have hi0 : (0 : Int) ≤ m := by omega
          have hi1 : (m : Int) < xs.length := by omega
          have d1 : decide ((0 : Int) < (m : Int) + 1) = true := by simp only [decide_eq_true_eq]; omega
          by_cases hyx : x ≤ y
          · go_wp2_with (go_at_call 62; refine (l1In_any _ _ _ _).mono ?_; rintro e w' ⟨rfl, rfl⟩)
            go_ret
            exact ⟨ret_bool (risB_step hlt (by rw [EX.out, EY.out]; exact hyx)).symm, hb⟩
          · go_wp2_with (go_at_call 62; refine (l1In_any _ _ _ _).mono ?_; rintro e w' ⟨rfl, rfl⟩)
            go_roundw
            case rel => exact ⟨m + 2, by omega, by go_num, ha.succ (by rw [EX.out]; exact hxb) (fun j e => by obtain rfl : j = m := by omega
                                                                                                              rw [EX.out, EY.out]; omega), hb⟩
            case measure => simp [intOf]; omega
      · have hin : inB x lo hi = false := by simpa using hin
        clear hc hx ex
        go_wp2_with (go_at_call 62; refine (l1In_any _ _ _ _).mono ?_; rintro e w' ⟨rfl, rfl⟩)
        go_ret
        exact ⟨ret_bool (risB_out hlt (by rw [EX.out]; simp [inB] at hin; omega)).symm, hb⟩
    · clear hx
      go_wp2
      go_ret
      have : k = xs.length := by omega
      subst this
      exact ⟨ret_bool (risB_yes ha).symm, hb⟩


def vlB (v : Int) : Bool := inB v 0 4000
noncomputable def rmB (st : List Int) (r : Int) : Bool := stmB st && inB r 1 8
theorem rmB_no {st : List Int} {r : Int} (h : stmB st = false) : rmB st r = false := by simp [rmB, h]
theorem rmB_out {st : List Int} {r : Int} (h : inB r 1 8 = false) : rmB st r = false := by simp [rmB, h]
theorem rmB_yes {st : List Int} {r : Int} (h : rmB st r = true) : Stm st ∧ ∃ n : Nat, r = n ∧ 1 ≤ n ∧ n ≤ 8 := by
  simp only [rmB, Bool.and_eq_true] at h
  have := inB_iff.1 h.2
  exact ⟨stmB_iff.1 h.1, r.toNat, by omega, by omega, by omega⟩
set_option maxHeartbeats 1000000 in
theorem stGood_any (v : Value) (st : List Int) (w : World) (h : Sv w v st) (hl : st.length ≤ 1099511627776) :
    Calls Try.prog 49 #[v] w fun e w' => e = .returned (.bool (stmB st)) ∧ Below w.heap.size w w' := by
  have hs := h
  obtain ⟨p, cap, rfl, hx⟩ := h
  clear hx
  by_cases h1 : 1 ≤ st.length ∧ st.length ≤ 6
  · have d1 : inB (st.length : Int) 1 6 = true := inB_iff.2 (by omega)
    have SB := Lib.hid (stmB_ris h1.1 h1.2)
    clear h1
    go_enter Try.func49, Try.ntmps49
    go_wp2_with (first | (go_at_call 62; refine (l1In_any _ _ _ _).mono ?_; rintro e w' ⟨rfl, rfl⟩) | (go_at_call 70; refine (l1Rising_any _ _ _ _ _ hs hl).mono ?_; rintro e w' ⟨rfl, hb⟩))
    go_ret
    exact ⟨ret_bool SB.out.symm, hb⟩
  · have d1 : inB (st.length : Int) 1 6 = false := by
      cases h : inB (st.length : Int) 1 6 with
      | false => rfl
      | true => have := inB_iff.1 h; omega
    have SB : Hid (stmB st = false) := Lib.hid (stmB_no fun g => h1 ⟨g.one, g.six⟩)
    clear h1
    go_enter Try.func49, Try.ntmps49
    go_wp2_with (go_at_call 62; refine (l1In_any _ _ _ _).mono ?_; rintro e w' ⟨rfl, rfl⟩)
    go_ret
    exact ⟨ret_bool SB.out.symm, Below.refl _ _⟩
set_option maxHeartbeats 1000000 in
theorem stRoom_any (v : Value) (st : List Int) (r : Int) (w : World) (h : Sv w v st) (hl : st.length ≤ 1099511627776) :
    Calls Try.prog 50 #[v, .int .i64 r] w fun e w' => e = .returned (.bool (rmB st r)) ∧ Below w.heap.size w w' := by
  by_cases hg : stmB st = true
  · have R : Hid (inB r 1 8 = rmB st r) := Lib.hid (by simp [rmB, hg])
    go_enter Try.func50, Try.ntmps50
    go_wp2_with (first | (go_at_call 49; refine (stGood_any _ _ _ h hl).mono ?_; rw [hg]; rintro e w' ⟨rfl, hb⟩) | (go_at_call 62; refine (l1In_any _ _ _ _).mono ?_; rintro e w' ⟨rfl, rfl⟩))
    go_ret
    exact ⟨ret_bool R.out, hb⟩
  · have hg : stmB st = false := by simpa using hg
    have R := Lib.hid (rmB_no (r := r) hg)
    go_enter Try.func50, Try.ntmps50
    go_wp2_with (go_at_call 49; refine (stGood_any _ _ _ h hl).mono ?_; rw [hg]; rintro e w' ⟨rfl, hb⟩)
    go_ret
    exact ⟨ret_bool R.out.symm, hb⟩
theorem stValue_any (n : Int) (w : World) : Calls Try.prog 51 #[.int .i64 n] w fun e w' => e = .returned (.bool (vlB n)) ∧ w = w' := by
  go_enter Try.func51, Try.ntmps51
  go_wp2_with (go_at_call 62; refine (l1In_any _ _ _ _).mono ?_; rintro e w' ⟨rfl, rfl⟩)
  go_ret
  exact ⟨rfl, rfl⟩
def fkB (k r : Int) : Bool := inB k 1 3 && inB r 1 5
theorem stFewKinds_any (k r : Int) (w : World) : Calls Try.prog 66 #[.int .i64 k, .int .i64 r] w fun e w' => e = .returned (.bool (fkB k r)) ∧ w = w' := by
  by_cases h : inB k 1 3 = true
  · go_enter Try.func66, Try.ntmps66
    go_wp2_with (go_at_call 62; refine (l1In_any _ _ _ _).mono ?_; rintro e w' ⟨rfl, rfl⟩)
    go_ret
    exact ⟨by simp [fkB, h], rfl⟩
  · have h : inB k 1 3 = false := by simpa using h
    go_enter Try.func66, Try.ntmps66
    go_wp2_with (go_at_call 62; refine (l1In_any _ _ _ _).mono ?_; rintro e w' ⟨rfl, rfl⟩)
    go_ret
    exact ⟨by simp [fkB, h], rfl⟩
end Go.Proofs.Ytmllokooceghiaa
