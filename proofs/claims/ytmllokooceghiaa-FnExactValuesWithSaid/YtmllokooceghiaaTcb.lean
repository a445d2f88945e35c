/-
  ValuesOf and ValuesWith in the program, by their contracts. Condition: slices of at most 2^40 numbers.
-/
import Derived.Test.YtmllokooceghiaaTvm
namespace Go.Proofs.Ytmllokooceghiaa
open Go.RowKit

theorem vmK_stop {P : Nat → Bool} {M : Nat} (h : ∀ j, M < j → P j = false) : ∀ d, vmK P (M + 1 + d) = vmK P (M + 1) := by
  intro d
  induction d with
  | zero => rfl
  | succ d ih => rw [← Nat.add_assoc, vmK_no (h _ (by omega)), ih]
theorem vmK_to {P : Nat → Bool} {M N : Nat} (h : ∀ j, M < j → P j = false) (hN : M + 1 ≤ N) : vmK P N = vmK P (M + 1) := by
  obtain ⟨d, rfl⟩ : ∃ d, N = M + 1 + d := ⟨N - (M + 1), by omega⟩
  exact vmK_stop h d
theorem vo_all {st : List Int} (S : Stm st) {r : Nat} (r8 : r ≤ 8) : vmK (fun j => decide (fw st j ≤ (r : Int))) 4001 = voK st r (((r : Int) * lastS st).toNat + 1) := by
  have hb := S.last_bd
  have h0 : 0 ≤ (r : Int) * lastS st := Int.mul_nonneg (by omega) (by omega)
  have h2 : (r : Int) * lastS st ≤ 8 * 500 := Int.mul_le_mul (by omega) hb.2 (by omega) (by omega)
  exact vmK_to (M := ((r : Int) * lastS st).toNat) (fun j hj => by have := fw_far S r8 (v := j) (by omega); simpa using this) (by omega)
theorem vw_all {st : List Int} (S : Stm st) {c : Nat} (c8 : c ≤ 8) : vmK (fun j => mkB st c (j : Int)) 4001 = vwK st c (c * (lastS st).toNat + 1) := by
  have hb := S.last_bd
  have h2 : c * (lastS st).toNat ≤ 8 * 500 := Nat.mul_le_mul c8 (by omega)
  refine vmK_to (M := c * (lastS st).toNat) (fun j hj => ?_) (by omega)
  cases e : mkB st c (j : Int) with
  | false => rfl
  | true =>
    have hm := mkB_iff.1 e
    have hx := (Mk.bd (lo := 1) (hi := lastS st) (fun n hn => ⟨(S.mem n hn).1, S.le_last n hn⟩) c j hm).2
    have e3 : ((c * (lastS st).toNat : Nat) : Int) = lastS st * c := by
      rw [Int.natCast_mul, Int.toNat_of_nonneg (by omega), Int.mul_comm]
    omega

set_option maxHeartbeats 4000000 in
set_option maxRecDepth 20000 in
theorem implValuesOf_any (v : Value) (st : List Int) (a1 : Int) (w : World) (h : Sp w v st) (hl : st.length ≤ 1099511627776) :
    Calls Try.prog 34 #[v, .int .i64 a1] w fun e w' => ∃ u, e = .returned (.tuple #[u, .bool (rmB st a1)]) ∧ Ow w' w.heap.size u (voR st a1) ∧ Below w.heap.size w w' := by
  have HS := Lib.hid h.sv
  by_cases hr : rmB st a1 = true
  · obtain ⟨S, r, rfl, r1, r8⟩ := rmB_yes hr
    have h6 := S.six
    have m1 : ∀ x ∈ st, (1 : Int) ≤ x := fun x hx => (S.mem x hx).1
    have R : Hid (vmK (fun j => decide (fw st j ≤ (r : Int))) 4001 = voR st r) := Lib.hid (by unfold voR; rw [if_pos hr]; exact vo_all S r8)
    obtain ⟨b, off, cap, rfl, _, _, hb, hc⟩ := h
    have VM := Lib.hid (valuesMadeOf_any b off cap 48 (.agg #[.int .i64 (r : Int)]) (fun j => decide (fw st j ≤ (r : Int))) st w m1 (by omega) hb hc (fun u W => made_most m1 u r r8 W))
    rw [hr]
    clear hc S m1
    go_enter Try.func34, Try.ntmps34
    go_wp2_with fail
    refine (areStampsInRoom_any _ _ _ _ HS.out hl).mono ?_
    rw [hr]
    rintro e w0 ⟨rfl, rfl⟩
    go_wp2_with fail
    refine VM.out.mono ?_
    rintro e w1 ⟨u, rfl, o1, b1⟩
    rw [R.out] at o1
    go_wp2_with fail
    go_ret2
    exact ⟨_, ret_lb rfl rfl, o1, b1⟩
  · have hr : rmB st a1 = false := by simpa using hr
    have Q : Hid (voR st a1 = []) := Lib.hid (by simp [voR, hr])
    rw [hr]
    go_enter Try.func34, Try.ntmps34
    go_wp2_with fail
    refine (areStampsInRoom_any _ _ _ _ HS.out hl).mono ?_
    rw [hr]
    rintro e w0 ⟨rfl, rfl⟩
    go_wp2_with fail
    go_ret2
    exact ⟨_, ret_lb rfl rfl, by rw [Q.out]; exact World.ownsRow_nil _ _ _ _, Below.refl _ _⟩

set_option maxHeartbeats 4000000 in
set_option maxRecDepth 20000 in
theorem implValuesWith_any (v : Value) (st : List Int) (a1 : Int) (w : World) (h : Sp w v st) (hl : st.length ≤ 1099511627776) :
    Calls Try.prog 36 #[v, .int .i64 a1] w fun e w' => ∃ u, e = .returned (.tuple #[u, .bool (vwB st a1)]) ∧ Ow w' w.heap.size u (vwR st a1) ∧ Below w.heap.size w w' := by
  have HS := Lib.hid h.sv
  by_cases hg : stmB st = true
  · by_cases h0 : 0 ≤ a1
    · have d0 : decide (a1 < 0) = false := by simp; omega
      by_cases h8 : a1 ≤ 8
      · have d8 : decide ((8 : Int) < a1) = false := by simp; omega
        have S := stmB_iff.1 hg
        have h6 := S.six
        have G : Hid (true = vwB st a1) := Lib.hid (by simp [vwB, hg, inB, h0, h8])
        obtain ⟨c, rfl⟩ : ∃ c : Nat, a1 = c := ⟨a1.toNat, by omega⟩
        have m1 : ∀ x ∈ st, (1 : Int) ≤ x := fun x hx => (S.mem x hx).1
        have R : Hid (vmK (fun j => mkB st c (j : Int)) 4001 = vwR st c) := Lib.hid (by unfold vwR; rw [← G.out, if_pos rfl]; exact vw_all S (by omega))
        obtain ⟨b, off, cap, rfl, _, _, hb, hc⟩ := h
        have VM := Lib.hid (valuesMadeOf_any b off cap 55 (.agg #[.int .i64 (c : Int)]) (fun j => mkB st c (j : Int)) st w m1 (by omega) hb hc (fun u W => made_with u c (by omega) W))
        clear hc S m1
        go_enter Try.func36, Try.ntmps36
        go_wp2_with fail
        refine (areStamps_any _ _ _ HS.out hl).mono ?_
        rw [hg]
        rintro e w0 ⟨rfl, rfl⟩
        go_wp2_with fail
        refine VM.out.mono ?_
        rintro e w1 ⟨u, rfl, o1, b1⟩
        rw [R.out] at o1
        go_wp2_with fail
        go_ret2
        exact ⟨_, ret_lb rfl G.out, o1, b1⟩
      · have d8 : decide ((8 : Int) < a1) = true := by simp; omega
        have G : Hid (false = vwB st a1) := Lib.hid (by simp [vwB, inB]; omega)
        have Q : Hid (vwR st a1 = []) := Lib.hid (by unfold vwR; rw [← G.out]; rfl)
        go_enter Try.func36, Try.ntmps36
        go_wp2_with fail
        refine (areStamps_any _ _ _ HS.out hl).mono ?_
        rw [hg]
        rintro e w0 ⟨rfl, rfl⟩
        go_wp2_with fail
        go_ret2
        exact ⟨_, ret_lb rfl G.out, by rw [Q.out]; exact World.ownsRow_nil _ _ _ _, Below.refl _ _⟩
    · have d0 : decide (a1 < 0) = true := by simp; omega
      have G : Hid (false = vwB st a1) := Lib.hid (by simp [vwB, inB]; omega)
      have Q : Hid (vwR st a1 = []) := Lib.hid (by unfold vwR; rw [← G.out]; rfl)
      go_enter Try.func36, Try.ntmps36
      go_wp2_with fail
      refine (areStamps_any _ _ _ HS.out hl).mono ?_
      rw [hg]
      rintro e w0 ⟨rfl, rfl⟩
      go_wp2_with fail
      go_ret2
      exact ⟨_, ret_lb rfl G.out, by rw [Q.out]; exact World.ownsRow_nil _ _ _ _, Below.refl _ _⟩
  · have hg : stmB st = false := by simpa using hg
    have G : Hid (false = vwB st a1) := Lib.hid (by simp [vwB, hg])
    have Q : Hid (vwR st a1 = []) := Lib.hid (by unfold vwR; rw [← G.out]; rfl)
    go_enter Try.func36, Try.ntmps36
    go_wp2_with fail
    refine (areStamps_any _ _ _ HS.out hl).mono ?_
    rw [hg]
    rintro e w0 ⟨rfl, rfl⟩
    go_wp2_with fail
    go_ret2
    exact ⟨_, ret_lb rfl G.out, by rw [Q.out]; exact World.ownsRow_nil _ _ _ _, Below.refl _ _⟩
end Go.Proofs.Ytmllokooceghiaa
