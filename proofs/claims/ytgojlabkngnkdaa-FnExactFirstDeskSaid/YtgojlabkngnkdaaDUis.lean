/-
  Whether a list is a ruler, how long it is, and whether a place lies between its ends, in the program, by their contracts. Condition: slices of at most 2^40 numbers.
-/
import Derived.Test.YtgojlabkngnkdaaDRnd
namespace Go.Proofs.Ytgojlabkngnkdaa
open Go.RowKit

theorem rul_no_low {ms : List Int} {k : Nat} (hk : k + 1 < ms.length) (h : ms.getD (k + 1) 0 ≤ ms.getD k 0 ∨ 60 < ms.getD (k + 1) 0) : rulB ms = false :=
  rulB_no fun g => by
    have h1 := g.ris.2 k hk
    have h2 := g.ris.1 (k + 1) hk
    omega
theorem rul_all {ms : List Int} (h2 : 2 ≤ ms.length) (h0 : ms.getD 0 0 = 0) (h : RisTo ms 0 60 ms.length) : rulB ms = true := rulB_yes ⟨h2, h, h0⟩
theorem ris_one {ms : List Int} (h0 : ms.getD 0 0 = 0) : RisTo ms 0 60 1 :=
  ⟨fun j hj => by obtain rfl : j = 0 := by omega
                  omega, fun j hj => by omega⟩
set_option maxHeartbeats 4000000 in
set_option maxRecDepth 20000 in
theorem implIsRuler_any (v : Value) (ms : List Int) (w : World) (h : Sp w v ms) (hl : ms.length ≤ 1099511627776) :
    Calls Try.prog 36 #[v] w fun e w' => e = .returned (.bool (rulB ms)) ∧ Below w.heap.size w w' := by
  obtain ⟨b, off, cap, rfl, hcap, hcm, hbl, hc⟩ := h
  have HC := Lib.hid hc
  have hcm : cap ≤ 9223372036854775807 := by unfold maxLen at hcm; exact hcm
  by_cases h2 : ms.length < 2
  · have Q := Lib.hid (rulB_no (ms := ms) fun g => by have := g.two; omega)
    clear hc
    go_enter Try.func36, Try.ntmps36
    go_wp2
    go_ret
    exact ⟨ret_bool Q.out.symm, Below.refl _ _⟩
  · have hc0 := hc 0 (by omega)
    rw [Nat.add_zero] at hc0
    obtain ⟨n, hn⟩ : ∃ n, ms.length = n + 2 := ⟨ms.length - 2, by omega⟩
    by_cases hz : ms.getD 0 0 = 0
    · have HZ := Lib.hid hz
      rw [hz] at hc0
      have HN := Lib.hid hn
      rw [hn] at hcap hl ⊢
      clear hc h2 hn hz
      go_enter Try.func36, Try.ntmps36
      go_wp2
      go_loop [3, 18] (fun z x => ∃ k : Nat, k ≤ n + 1 ∧ x = .int .i64 k ∧ z = .int .i64 (ms.getD k 0) ∧ Hid (RisTo ms 0 60 (k + 1))) (fun _ x => n + 1 - (intOf x).toNat)
      case atStart => exact ⟨0, Nat.zero_le _, rfl, by rw [HZ.out], Lib.hid (ris_one HZ.out)⟩
      case round =>
        obtain ⟨k, hk, rfl, rfl, HK⟩ := hrel
        by_cases hlt : k < n + 1
        · have hcell := HC.out (k + 1) (by rw [HN.out]; omega)
          have e1 : off + (k + 1) = off + 1 + k := by omega
          rw [e1] at hcell
          have NO := Lib.hid (rul_no_low (ms := ms) (k := k) (by rw [HN.out]; omega))
          have HS : Hid (ms.getD k 0 < ms.getD (k + 1) 0 → ms.getD (k + 1) 0 ≤ 60 → RisTo ms 0 60 (k + 2)) := Lib.hid (fun a c => HK.out.succ (by
            have := HK.out.1 k (by omega); omega) (fun m e => by obtain rfl : m = k := by omega
                                                                 exact a))
          obtain ⟨x, ex⟩ : ∃ x, ms.getD (k + 1) 0 = x := ⟨_, rfl⟩
          obtain ⟨y, ey⟩ : ∃ y, ms.getD k 0 = y := ⟨_, rfl⟩
          rw [ex] at hcell
          rw [ex, ey] at NO HS
          rw [ey]
          have EX := Lib.hid ex
          clear ex ey hc0
          by_cases h1 : x ≤ y
          · have R := Lib.hid (NO.out (.inl h1))
            go_wp2
            go_ret
            exact ⟨ret_bool R.out.symm, Below.refl _ _⟩
          · by_cases h6 : 60 < x
            · have R := Lib.hid (NO.out (.inr h6))
              have d1 : decide (x ≤ y) = false := by simpa using h1
              go_wp2
              go_ret
              exact ⟨ret_bool R.out.symm, Below.refl _ _⟩
            · have d1 : decide (x ≤ y) = false := by simpa using h1
              have d6 : decide (60 < x) = false := by simpa using h6
              have R := Lib.hid (HS.out (by omega) (by omega))
              go_wp2
              go_round
              case rel => exact ⟨k + 1, by omega, by go_num, by rw [EX.out], R⟩
              case measure => simp [intOf]; omega
        · have hke : k = n + 1 := by omega
          subst hke
          have R := Lib.hid (rul_all (by rw [HN.out]; omega) HZ.out (by rw [HN.out]; exact HK.out))
          clear HC hc0
          go_wp2
          go_ret
          exact ⟨ret_bool R.out.symm, Below.refl _ _⟩
    · have Q := Lib.hid (rulB_no (ms := ms) fun g => hz g.zero)
      obtain ⟨z, ez⟩ : ∃ z, ms.getD 0 0 = z := ⟨_, rfl⟩
      rw [ez] at hc0 hz
      have dz : (z != 0) = true := by simpa using hz
      rw [hn] at hcap hl ⊢
      clear hc ez
      go_enter Try.func36, Try.ntmps36
      go_wp2
      go_ret
      exact ⟨ret_bool Q.out.symm, Below.refl _ _⟩

end Go.Proofs.Ytgojlabkngnkdaa
