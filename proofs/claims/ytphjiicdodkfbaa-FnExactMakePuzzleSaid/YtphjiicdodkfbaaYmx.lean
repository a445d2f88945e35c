/-
  slices.Max and slices.Min of integers, by their contracts; slices.Index. Conditions: one number at least (Max, Min), at most 2^40.
-/
import Derived.Test.YtphjiicdodkfbaaMark
import Derived.Test.YtphjiicdodkfbaaGood
namespace Go.Proofs.Ytphjiicdodkfbaa
open Go.RowKit

/-- What stands in the first k numbers the greatest. -/
def MaxTo (ys : List Int) (k : Nat) (m : Int) : Prop := (∀ j, j < k → ys.getD j 0 ≤ m) ∧ ∃ j, j < k ∧ ys.getD j 0 = m
theorem MaxTo.less {ys : List Int} {k : Nat} {m x : Int} (h : MaxTo ys k m) (hx : ys.getD k 0 = x) (hm : m ≤ x) : MaxTo ys (k + 1) x :=
  ⟨fun j hj => by
    by_cases e : j = k
    · subst e; omega
    · have := h.1 j (by omega); omega, k, by omega, hx⟩
theorem MaxTo.more {ys : List Int} {k : Nat} {m x : Int} (h : MaxTo ys k m) (hx : ys.getD k 0 = x) (hm : x ≤ m) : MaxTo ys (k + 1) m :=
  ⟨fun j hj => by
    by_cases e : j = k
    · subst e; omega
    · exact h.1 j (by omega), by obtain ⟨j, hj, e⟩ := h.2; exact ⟨j, by omega, e⟩⟩
set_option maxHeartbeats 4000000 in
set_option maxRecDepth 20000 in
theorem max_any (v : Value) (ys : List Int) (w : World) (h : Sv w v ys) (h1 : 1 ≤ ys.length) (hl : ys.length ≤ 1099511627776) :
    Calls Try.prog 66 #[v] w fun e w' => (∃ m, e = .returned (.int .i64 m) ∧ MaxTo ys ys.length m) ∧ w' = w := by
  obtain ⟨p, cap, rfl, hx⟩ := h
  obtain ⟨b, off, rfl, hbl, hc⟩ := hx (by omega)
  have HC := Lib.hid hc
  have hc0 := hc 0 (by omega)
  rw [Nat.add_zero] at hc0
  obtain ⟨m0, e0⟩ : ∃ m0, ys.getD 0 0 = m0 := ⟨_, rfl⟩
  rw [e0] at hc0
  have M0 : Hid (MaxTo ys 1 m0) := Lib.hid ⟨fun j hj => by obtain rfl : j = 0 := by omega
                                                           rw [e0]; exact Int.le_refl _, 0, by omega, e0⟩
  clear hx hc e0
  go_enter Try.func66, Try.ntmps66
  go_wp2
  go_loop [3, 4] (fun z x => ∃ (k : Nat) (m : Int), 1 ≤ k ∧ k ≤ ys.length ∧ x = .int .i64 k ∧ z = .int .i64 m ∧ Hid (MaxTo ys k m)) (fun _ x => ys.length - (intOf x).toNat)
  case atStart => exact ⟨1, m0, by omega, h1, rfl, rfl, M0⟩
  case round =>
    clear M0 hc0
    obtain ⟨k, m, hk1, hk, rfl, rfl, HK⟩ := hrel
    by_cases hlt : k < ys.length
    · have hcell := HC.out k hlt
      obtain ⟨x, ex⟩ : ∃ x, ys.getD k 0 = x := ⟨_, rfl⟩
      rw [ex] at hcell
      have LE := Lib.hid (HK.out.less ex)
      have MO := Lib.hid (HK.out.more ex)
      clear ex
      by_cases hmx : m ≤ x
      · have E := Lib.hid (LE.out hmx)
        have e1 : max m x = x := by omega
        go_wp2
        go_round
        case rel => exact ⟨k + 1, x, by omega, by omega, by go_num, by first | rfl | rw [e1], E⟩
        case measure => simp [intOf]; omega
      · have E := Lib.hid (MO.out (by omega))
        have e1 : max m x = m := by omega
        go_wp2
        go_round
        case rel => exact ⟨k + 1, m, by omega, by omega, by go_num, by first | rfl | rw [e1], E⟩
        case measure => simp [intOf]; omega
    · obtain rfl : k = ys.length := by omega
      go_wp2
      go_ret
      exact ⟨⟨_, rfl, HK.out⟩, rfl⟩

/-- What stands in the first k numbers the least. -/
def MinTo (ys : List Int) (k : Nat) (m : Int) : Prop := (∀ j, j < k → m ≤ ys.getD j 0) ∧ ∃ j, j < k ∧ ys.getD j 0 = m
theorem MinTo.less {ys : List Int} {k : Nat} {m x : Int} (h : MinTo ys k m) (hx : ys.getD k 0 = x) (hm : x ≤ m) : MinTo ys (k + 1) x :=
  ⟨fun j hj => by
    by_cases e : j = k
    · subst e; omega
    · have := h.1 j (by omega); omega, k, by omega, hx⟩
theorem MinTo.more {ys : List Int} {k : Nat} {m x : Int} (h : MinTo ys k m) (hx : ys.getD k 0 = x) (hm : m ≤ x) : MinTo ys (k + 1) m :=
  ⟨fun j hj => by
    by_cases e : j = k
    · subst e; omega
    · exact h.1 j (by omega), by obtain ⟨j, hj, e⟩ := h.2; exact ⟨j, by omega, e⟩⟩
set_option maxHeartbeats 4000000 in
set_option maxRecDepth 20000 in
theorem min_any (v : Value) (ys : List Int) (w : World) (h : Sv w v ys) (h1 : 1 ≤ ys.length) (hl : ys.length ≤ 1099511627776) :
    Calls Try.prog 90 #[v] w fun e w' => (∃ m, e = .returned (.int .i64 m) ∧ MinTo ys ys.length m) ∧ w' = w := by
  obtain ⟨p, cap, rfl, hx⟩ := h
  obtain ⟨b, off, rfl, hbl, hc⟩ := hx (by omega)
  have HC := Lib.hid hc
  have hc0 := hc 0 (by omega)
  rw [Nat.add_zero] at hc0
  obtain ⟨m0, e0⟩ : ∃ m0, ys.getD 0 0 = m0 := ⟨_, rfl⟩
  rw [e0] at hc0
  have M0 : Hid (MinTo ys 1 m0) := Lib.hid ⟨fun j hj => by obtain rfl : j = 0 := by omega
                                                           rw [e0]; exact Int.le_refl _, 0, by omega, e0⟩
  clear hx hc e0
  go_enter Try.func90, Try.ntmps90
  go_wp2
  go_loop [3, 4] (fun z x => ∃ (k : Nat) (m : Int), 1 ≤ k ∧ k ≤ ys.length ∧ x = .int .i64 k ∧ z = .int .i64 m ∧ Hid (MinTo ys k m)) (fun _ x => ys.length - (intOf x).toNat)
  case atStart => exact ⟨1, m0, by omega, h1, rfl, rfl, M0⟩
  case round =>
    clear M0 hc0
    obtain ⟨k, m, hk1, hk, rfl, rfl, HK⟩ := hrel
    by_cases hlt : k < ys.length
    · have hcell := HC.out k hlt
      obtain ⟨x, ex⟩ : ∃ x, ys.getD k 0 = x := ⟨_, rfl⟩
      rw [ex] at hcell
      have LE := Lib.hid (HK.out.less ex)
      have MO := Lib.hid (HK.out.more ex)
      clear ex
      by_cases hmx : x ≤ m
      · have E := Lib.hid (LE.out hmx)
        have e1 : min m x = x := by omega
        go_wp2
        go_round
        case rel => exact ⟨k + 1, x, by omega, by omega, by go_num, by first | rfl | rw [e1], E⟩
        case measure => simp [intOf]; omega
      · have E := Lib.hid (MO.out (by omega))
        have e1 : min m x = m := by omega
        go_wp2
        go_round
        case rel => exact ⟨k + 1, m, by omega, by omega, by go_num, by first | rfl | rw [e1], E⟩
        case measure => simp [intOf]; omega
    · obtain rfl : k = ys.length := by omega
      go_wp2
      go_ret
      exact ⟨⟨_, rfl, HK.out⟩, rfl⟩


def idxL (ys : List Int) (x : Int) : Nat := ys.findIdx (fun y => y == x)
theorem idxL_hit {ys : List Int} {k : Nat} {x : Int} (hk : k < ys.length) (h : ys.getD k 0 = x) (hb : ∀ j, j < k → ys.getD j 0 ≠ x) : idxL ys x = k := by
  have e : ∀ j (hj : j < ys.length), ys.getD j 0 = ys[j] := fun j hj => by rw [List.getD_eq_getElem?_getD, List.getElem?_eq_getElem hj]; rfl
  unfold idxL
  rw [List.findIdx_eq hk]
  refine ⟨by rw [← e k hk, h]; simp, fun j hj => ?_⟩
  have := hb j hj
  rw [e j (by omega)] at this
  simpa using this
set_option maxHeartbeats 2000000 in
theorem index_any (v : Value) (ys : List Int) (x : Int) (w : World) (h : Sv w v ys) (hl : ys.length ≤ 1099511627776) (hm : ∃ j, j < ys.length ∧ ys.getD j 0 = x) :
    Calls Try.prog 89 #[v, .int .i64 x] w fun e w' => e = .returned (.int .i64 (idxL ys x : Nat)) ∧ w = w' := by
  obtain ⟨p, cap, rfl, hx⟩ := h
  have HM := Lib.hid hm
  have HX := Lib.hid hx
  clear hm hx
  go_enter Try.func89, Try.ntmps89
  go_wp2
  go_loop [8] (fun i => ∃ k : Nat, k ≤ ys.length ∧ i = .int .i64 k ∧ Hid (∀ j, j < k → ys.getD j 0 ≠ x)) (fun i => ys.length - (intOf i).toNat)
  case atStart => exact ⟨0, Nat.zero_le _, rfl, Lib.hid (fun j hj => by omega)⟩
  case round =>
    obtain ⟨k, hk, rfl, HK⟩ := hrel
    by_cases hlt : k < ys.length
    · obtain ⟨b, off, rfl, hbl, hc⟩ := HX.out (by omega)
      have hcell := hc k hlt
      clear hc
      obtain ⟨y, ey⟩ : ∃ y, ys.getD k 0 = y := ⟨_, rfl⟩
      rw [ey] at hcell
      have EY := Lib.hid ey
      clear ey
      by_cases hy : x = y
      · have R := Lib.hid (idxL_hit hlt (EY.out.trans hy.symm) HK.out)
        have hb : (x == y) = true := by simpa using hy
        go_wp2
        go_ret
        exact ⟨ret_int (by rw [← hy, R.out]), rfl⟩
      · have N := Lib.hid (show ∀ j, j < k + 1 → ys.getD j 0 ≠ x from fun j hj => by
          by_cases e : j = k
          · subst e; rw [EY.out]; exact fun e => hy e.symm
          · exact HK.out j (by omega))
        have hb : (x == y) = false := by simpa using hy
        go_wp2
        go_round
        case rel => exact ⟨k + 1, by omega, by go_num, N⟩
        case measure => simp [intOf]; omega
    · obtain rfl : k = ys.length := by omega
      exact (by obtain ⟨j, hj, e⟩ := HM.out; exact (HK.out j hj e).elim)
end Go.Proofs.Ytphjiicdodkfbaa
