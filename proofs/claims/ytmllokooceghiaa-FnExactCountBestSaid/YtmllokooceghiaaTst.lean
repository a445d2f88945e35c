/-
  Whether there are stamps, a room, a value: the program's tests, by their contracts. Condition: slices of at most 2^40 numbers.
-/
import Derived.Test.YtmllokooceghiaaSty
namespace Go.Proofs.Ytmllokooceghiaa
open Go.RowKit

theorem stmB_none : stmB [] = false := stmB_no fun g => by have := g.one; simp at this
theorem stmB_long {st : List Int} (h : ¬ st.length ≤ 6) : stmB st = false := stmB_no fun g => h g.six
theorem stmB_bad {st : List Int} {k : Nat} (hk : k < st.length) (h : ¬ (1 ≤ st.getD k 0 ∧ st.getD k 0 ≤ 500)) : stmB st = false := stmB_no fun g => h (g.ris.1 k hk)
theorem stmB_step {st : List Int} {k : Nat} (hk : k + 1 < st.length) (h : st.getD (k + 1) 0 ≤ st.getD k 0) : stmB st = false := stmB_no fun g => by
  have := g.ris.2 k hk; omega

set_option maxHeartbeats 2000000 in
set_option maxRecDepth 20000 in
theorem areStamps_any (v : Value) (st : List Int) (w : World) (h : Sv w v st) (_hl : st.length ≤ 1099511627776) :
    Calls Try.prog 19 #[v] w fun e w' => e = .returned (.bool (stmB st)) ∧ w = w' := by
  obtain ⟨p, cap, rfl, hx⟩ := h
  by_cases h0 : st.length = 0
  · have hn : st = [] := List.length_eq_zero_iff.1 h0
    subst hn
    clear hx h0
    go_enter Try.func19, Try.ntmps19
    go_wp2
    go_ret
    exact ⟨ret_bool stmB_none.symm, rfl⟩
  · have d0 : ((st.length : Int) == 0) = false := by simpa using h0
    by_cases h6 : st.length ≤ 6
    · have d6 : decide ((6 : Int) < (st.length : Int)) = false := by simp; omega
      have H0 := Lib.hid h0
      clear h0
      go_enter Try.func19, Try.ntmps19
      go_wp2
      go_loop [3, 16] (fun l i => ∃ (k : Nat) (y : Int), k ≤ st.length ∧ i = .int .i64 k ∧ l = .int .i64 y ∧ RisTo st 1 500 k ∧ (k = 0 → y = 0) ∧ (∀ m, k = m + 1 → st.getD m 0 = y)) (fun _ i => st.length - (intOf i).toNat)
      case atStart => exact ⟨0, 0, Nat.zero_le _, rfl, rfl, ⟨fun j hj => by omega, fun j hj => by omega⟩, fun _ => rfl, fun m e => by omega⟩
      case round =>
        obtain ⟨k, y, hk, rfl, rfl, ha, hy0, hy⟩ := hrel
        by_cases hlt : k < st.length
        · obtain ⟨b, off, rfl, hbl, hc⟩ := hx (by omega)
          have hcell := hc k hlt
          obtain ⟨x, ex⟩ : ∃ x, st.getD k 0 = x := ⟨_, rfl⟩
          rw [ex] at hcell
          have EX := Lib.hid ex
          have HA := Lib.hid ha
          have HY := Lib.hid hy
          have HY0 := Lib.hid hy0
          have hi0 : (0 : Int) ≤ k := by omega
          have hi1 : (k : Int) < st.length := by omega
          clear hc hx ex ha hy hy0
          have hyb : Hid (0 ≤ y) := Lib.hid (by
            by_cases e : k = 0
            · rw [HY0.out e]; exact Int.le_refl _
            · obtain ⟨m, rfl⟩ : ∃ m, k = m + 1 := ⟨k - 1, by omega⟩
              have := HA.out.1 m (by omega)
              rw [HY.out m rfl] at this; omega)
          by_cases hxy : x ≤ y
          · have S : Hid (stmB st = false) := Lib.hid (by
              by_cases e : k = 0
              · exact stmB_bad hlt (by rw [EX.out]; have := HY0.out e; omega)
              · obtain ⟨m, rfl⟩ : ∃ m, k = m + 1 := ⟨k - 1, by omega⟩
                exact stmB_step hlt (by rw [EX.out, HY.out m rfl]; exact hxy))
            go_wp2
            go_ret
            exact ⟨ret_bool S.out.symm, rfl⟩
          · have d1 : decide (x ≤ y) = false := by simpa using hxy
            by_cases hx5 : x ≤ 500
            · have d2 : decide ((500 : Int) < x) = false := by simp; omega
              have HN := Lib.hid hxy
              clear hxy
              go_wp2
              go_round
              case rel => exact ⟨k + 1, x, by omega, by go_num, rfl, HA.out.succ (by rw [EX.out]; have := HN.out; have := hyb.out; omega) (fun j e => by subst e; rw [EX.out, HY.out j rfl]; have := HN.out; omega), fun e => by omega, fun m e => (show m = k by omega) ▸ EX.out⟩
              case measure => simp [intOf]; omega
            · have S := Lib.hid (stmB_bad hlt (by rw [EX.out]; omega))
              go_wp2
              go_ret
              exact ⟨ret_bool S.out.symm, rfl⟩
        · have hke : k = st.length := by omega
          subst hke
          have S := Lib.hid (stmB_yes (st := st) ⟨by have := H0.out; omega, h6, ha⟩)
          clear hx ha hy hy0 hlt
          go_wp2
          go_ret
          exact ⟨ret_bool S.out.symm, rfl⟩
    · have S := Lib.hid (stmB_long h6)
      clear hx h0
      go_enter Try.func19, Try.ntmps19
      go_wp2
      go_ret
      exact ⟨ret_bool S.out.symm, rfl⟩

theorem implAreStamps_any (v : Value) (st : List Int) (w : World) (h : Sp w v st) (hl : st.length ≤ 1099511627776) :
    Calls Try.prog 19 #[v] w fun e w' => e = .returned (.bool (stmB st)) ∧ Below w.heap.size w w' :=
  (areStamps_any v st w h.sv hl).mono fun _ _ ⟨h1, h2⟩ => ⟨h1, h2 ▸ Below.refl _ _⟩

theorem isStampValue_any (n : Int) (w : World) : Calls Try.prog 54 #[.int .i64 n] w fun e w' => e = .returned (.bool (vlB n)) ∧ w = w' := by
  by_cases h : 0 ≤ n
  · have h1 : decide (0 ≤ n) = true := by simpa using h
    go_enter Try.func54, Try.ntmps54
    go_wp2
    go_ret
    exact ⟨by simp [vlB, inB, h], rfl⟩
  · have h1 : decide (0 ≤ n) = false := by simpa using h
    go_enter Try.func54, Try.ntmps54
    go_wp2
    go_ret
    exact ⟨ret_bool (by simp [vlB, inB]; omega), rfl⟩

set_option maxHeartbeats 1000000 in
theorem areStampsInRoom_any (v : Value) (st : List Int) (r : Int) (w : World) (h : Sv w v st) (hl : st.length ≤ 1099511627776) :
    Calls Try.prog 53 #[v, .int .i64 r] w fun e w' => e = .returned (.bool (rmB st r)) ∧ w = w' := by
  by_cases hg : stmB st = true
  · by_cases hr : 1 ≤ r
    · have d1 : decide (1 ≤ r) = true := by simpa using hr
      have R : Hid (decide (r ≤ 8) = rmB st r) := Lib.hid (by simp [rmB, hg, inB, hr])
      go_enter Try.func53, Try.ntmps53
      go_wp2_with (go_at_call 19; refine (areStamps_any _ _ _ h hl).mono ?_; rw [hg]; rintro e w' ⟨rfl, rfl⟩)
      go_ret
      exact ⟨ret_bool R.out, rfl⟩
    · have d1 : decide (1 ≤ r) = false := by simpa using hr
      have R : Hid (rmB st r = false) := Lib.hid (rmB_out (by simp [inB]; omega))
      go_enter Try.func53, Try.ntmps53
      go_wp2_with (go_at_call 19; refine (areStamps_any _ _ _ h hl).mono ?_; rw [hg]; rintro e w' ⟨rfl, rfl⟩)
      go_ret
      exact ⟨ret_bool R.out.symm, rfl⟩
  · have hg : stmB st = false := by simpa using hg
    have R := Lib.hid (rmB_no (r := r) hg)
    go_enter Try.func53, Try.ntmps53
    go_wp2_with (go_at_call 19; refine (areStamps_any _ _ _ h hl).mono ?_; rw [hg]; rintro e w' ⟨rfl, rfl⟩)
    go_ret
    exact ⟨ret_bool R.out.symm, rfl⟩
end Go.Proofs.Ytmllokooceghiaa
