/-
  The model's reach and how many ways there are, by their contracts. Condition: stamps and a room.
-/
import Derived.Test.YtmllokooceghiaaSfw
namespace Go.Proofs.Ytmllokooceghiaa
open Go.RowKit

theorem rowOfOw {w : World} {B : Nat} {u : Value} {ys : List Int} {b : Nat} (h : Ow w B u ys) (ha : OwnAt u b) : ∃ cap, u = .slice (some ⟨b, 0, none⟩) ys.length cap ∧ b < w.heap.size ∧ ∀ j, j < ys.length → w.cell? ⟨b, j, none⟩ = some (.int .i64 (ys.getD j 0)) := by
  rcases h.form with ⟨rfl, rfl⟩ | ⟨g, cap, rfl, _, hlt⟩
  · cases ha
  · unfold OwnAt at ha
    have e : g = b := by simpa [Value.ownBlock] using ha
    subst e
    exact ⟨cap, rfl, hlt, fun j hj => h.cellAt rfl hj⟩

theorem fw_none (st : List Int) (r : Nat) : ∀ j, j ≤ 0 → fw st j ≤ (r : Int) := by
  intro j hj
  have : j = 0 := by omega
  subst this
  rw [fw_zero]; omega

set_option maxHeartbeats 4000000 in
set_option maxRecDepth 20000 in
theorem stReach_any (v : Value) (st : List Int) (r : Nat) (w : World) (h : Sv w v st) (hs : Stm st) (hr1 : 1 ≤ r) (hr : r ≤ 8) :
    Calls Try.prog 57 #[v, .int .i64 r] w fun e w' => e = .returned (.int .i64 (rch st r : Nat)) ∧ Below w.heap.size w w' := by
  have hlb := hs.last_bd
  have h6 := hs.six
  have h1 := hs.one
  have hsp := rch_spec hs hr
  have hfar := fun v => fw_far hs hr (v := v)
  have heq := fun r' => rch_eq hs hr (r := r')
  obtain ⟨M, hM, hM2⟩ : ∃ M : Nat, (r : Int) * lastS st = M ∧ M ≤ 4000 := by
    have h0 : 0 ≤ (r : Int) * lastS st := Int.mul_nonneg (by omega) (by omega)
    have h2 : (r : Int) * lastS st ≤ 8 * 500 := Int.mul_le_mul (by omega) hlb.2 (by omega) (by omega)
    exact ⟨((r : Int) * lastS st).toNat, by omega, by omega⟩
  have SF := stFew_any v st (M + 1) w h hs (by omega)
  rw [Int.natCast_succ] at SF
  have SF := Lib.hid SF
  obtain ⟨p, cap, rfl, hx⟩ := h
  obtain ⟨b, off, rfl, hbl, hc⟩ := hx (by omega)
  obtain ⟨n, hn⟩ : ∃ n, st.length = n + 1 := ⟨st.length - 1, by omega⟩
  have hcell : w.cell? ⟨b, off + n, none⟩ = some (.int .i64 (lastS st)) := by
    have := hc n (by omega)
    rw [this]; unfold lastS; rw [hn]; rfl
  rw [hM] at hsp hfar
  obtain ⟨l, el⟩ : ∃ l, lastS st = l := ⟨_, rfl⟩
  rw [el] at hcell hM hlb
  have hw1 : IntKind.i64.wrap ((r : Int) * l) = (M : Int) := by rw [hM]; exact IntWalk.i64_in _ (by omega)
  have HSP := Lib.hid hsp
  have HFAR := fun v => Lib.hid (hfar v)
  have HEQ := fun r' => Lib.hid (heq r')
  have HM := Lib.hid hM
  have hfl := fewT_len st (M + 1)
  rw [hn] at SF ⊢
  clear hc hx hsp hfar heq hM el hs
  go_enter Try.func57, Try.ntmps57
  go_wp2_with fail
  refine SF.out.mono ?_
  rintro e w1 ⟨u, rfl, o1, a1, b1⟩
  obtain ⟨c1, rfl, hlt1, hct⟩ := rowOfOw o1 a1
  rw [hfl] at hct ⊢
  clear SF o1 a1
  go_wp2
  go_loop [6] (fun i => ∃ k : Nat, k ≤ M ∧ i = .int .i64 k ∧ Hid (∀ j, j ≤ k → fw st j ≤ (r : Int))) (fun i => M + 1 - (intOf i).toNat)
  case atStart => exact ⟨0, Nat.zero_le _, rfl, Lib.hid (fw_none st r)⟩
  case round =>
    obtain ⟨k, hk, rfl, HK⟩ := hrel
    have hcell1 := hct (k + 1) (by omega)
    rw [fewT_at st (M + 1) (k + 1) (by omega)] at hcell1
    obtain ⟨x, ex⟩ : ∃ x, fw st (k + 1) = x := ⟨_, rfl⟩
    rw [ex] at hcell1
    have EX := Lib.hid ex
    have k0 : (0 : Int) ≤ (k : Int) + 1 := by omega
    have k1 : (k : Int) + 1 < (M : Int) + 1 + 1 := by omega
    clear hct ex
    by_cases hxr : x ≤ (r : Int)
    · have hkM : k + 1 ≤ M := by
        apply Classical.byContradiction
        intro hn2
        have := (HFAR (k + 1)).out (by omega)
        rw [EX.out] at this
        omega
      go_wp2
      go_round
      case rel => exact ⟨k + 1, hkM, by go_num, Lib.hid (fun j hj => by
        by_cases e : j = k + 1
        · subst e; rw [EX.out]; exact hxr
        · exact HK.out j (by omega))⟩
      case measure => simp [intOf]; omega
    · have E := Lib.hid ((HEQ k).out HK.out (by rw [EX.out]; omega))
      have dx : decide (x ≤ (r : Int)) = false := by simpa using hxr
      go_wp2
      go_ret
      exact ⟨ret_int (by rw [E.out]), b1⟩

set_option maxHeartbeats 4000000 in
set_option maxRecDepth 20000 in
theorem stWays_nil (v : Value) (r d : Int) (w : World) (h : Sv w v []) :
    Calls Try.prog 59 #[v, .int .i64 r, .int .i64 d] w fun e w' => e = .returned (.int .i64 (if d = 0 then 1 else 0)) ∧ Below w.heap.size w w' := by
  obtain ⟨p, cap, rfl, hx⟩ := h
  clear hx
  by_cases hd : d = 0
  · subst hd
    go_enter Try.func59, Try.ntmps59
    go_wp2
    go_ret
    exact ⟨rfl, Below.refl _ _⟩
  · have d1 : (d == 0) = false := by simpa using hd
    have HD := Lib.hid hd
    clear hd
    go_enter Try.func59, Try.ntmps59
    go_wp2
    go_ret
    exact ⟨ret_int (by first | rfl | rw [if_neg HD.out]), Below.refl _ _⟩
end Go.Proofs.Ytmllokooceghiaa
