/-
  How many ways there are to reach a value, in the model, by its contract. Condition: few kinds, a room, a value.
-/
import Derived.Test.YtmllokooceghiaaSrc
import Derived.Deep.RegionHeld3
namespace Go.Proofs.Ytmllokooceghiaa
open Go.RowKit

theorem sc_next {w W w' : World} {A : Addr} {r : Value} (hA : A.block < w.heap.size) (h : W.cell? A = some r ∧ Below w.heap.size w W) (k : Below W.heap.size W w') : w'.cell? A = some r ∧ Below w.heap.size w w' :=
  ⟨(k.cell (p := A) (Nat.lt_of_lt_of_le hA h.2.size)).trans h.1, nxt h.2 k⟩
theorem sc_bel {w W : World} {A : Addr} {r : Value} (h : W.cell? A = some r ∧ Below w.heap.size w W) : Below w.heap.size w W := h.2
theorem run_drew {w W : World} {n : Nat} (h : Below w.heap.size w W) : Below w.heap.size w (W.drewN n) := Below.trans h (Below.mono (below_drewN (Below.refl _ _) _) h.size)
/-- The rest of a slice. -/
def tailV (b off n cap : Nat) : Value := if cap = 1 then .slice (some ⟨b, off, none⟩) 0 0 else .slice (some ⟨b, off + 1, none⟩) n (cap - 1)
theorem sp_tail {w : World} {b off cap : Nat} {n : Int} {t : List Int} (hb : b < w.heap.size) (hcap : t.length + 1 ≤ cap) (hcm : cap ≤ maxLen) (hc : ∀ j, j < (n :: t).length → w.cell? ⟨b, off + j, none⟩ = some (.int .i64 ((n :: t).getD j 0))) : Sp w (tailV b off t.length cap) t := by
  unfold tailV
  by_cases h : cap = 1
  · rw [if_pos h]
    have ht : t = [] := List.length_eq_zero_iff.1 (by omega)
    subst ht
    exact ⟨b, off, 0, rfl, Nat.le_refl _, by omega, hb, fun j hj => by simp at hj⟩
  · rw [if_neg h]
    refine ⟨b, off + 1, cap - 1, rfl, by omega, by omega, hb, fun j hj => ?_⟩
    have := hc (j + 1) (by simp; omega)
    rw [show off + (j + 1) = off + 1 + j by omega] at this
    rw [this]; rfl
/-- The loop's state: what is summed, and what is still to come. -/
def rest (F : Nat → Int → Int) (n : Int) (r k : Nat) (d : Int) : Int := if k ≤ r then wwS F n (r - k) (d - k * n) else 0
theorem rest_step {F : Nat → Int → Int} {n : Int} {r k : Nat} {d : Int} (hk : k ≤ r) (hd : (k : Int) * n ≤ d) : rest F n r k d = F (r - k) (d - k * n) + rest F n r (k + 1) d := by
  unfold rest
  rw [if_pos hk]
  by_cases h : k = r
  · subst h
    rw [if_neg (by omega), Nat.sub_self, wwS_last _ _ _ (by omega)]; omega
  · obtain ⟨m, hm⟩ : ∃ m, r - k = m + 1 := ⟨r - k - 1, by omega⟩
    rw [if_pos (by omega), hm, wwS_step _ _ _ _ (by omega), show r - (k + 1) = m by omega, Int.natCast_succ, Int.add_mul, Int.one_mul]
    congr 2
    omega
theorem rest_stop {F : Nat → Int → Int} {n : Int} {r k : Nat} {d : Int} (h : ¬ k ≤ r ∨ d < (k : Int) * n) : rest F n r k d = 0 := by
  unfold rest
  by_cases hk : k ≤ r
  · rw [if_pos hk, wwS_neg _ _ _ _ (by rcases h with h | h <;> omega)]
  · rw [if_neg hk]
theorem rest_zero (F : Nat → Int → Int) (n : Int) (r : Nat) (d : Int) : rest F n r 0 d = wwS F n r d := by simp [rest]
theorem rest_nn {F : Nat → Int → Int} {n B : Int} (hF : ∀ r v, r ≤ 8 → 0 ≤ F r v ∧ F r v ≤ B) {r k : Nat} (hr : r ≤ 8) (d : Int) : 0 ≤ rest F n r k d := by
  unfold rest
  split
  · exact (wwS_bd hF _ _ (by omega)).1
  · omega
def WaysOk (l : List Int) : Prop := ∀ (v : Value) (r : Nat) (d : Int) (w : World), Sp w v l → r ≤ 8 → -5000 ≤ d → d ≤ 5000 →
  Calls Try.prog 59 #[v, .int .i64 r, .int .i64 d] w fun e w' => e = .returned (.int .i64 (ww l r d)) ∧ Below w.heap.size w w'

set_option maxHeartbeats 8000000 in
set_option maxRecDepth 20000 in
theorem ways_cons (n : Int) (t : List Int) (hl : t.length ≤ 5) (hn1 : 1 ≤ n) (hn2 : n ≤ 500) (ih : WaysOk t) : WaysOk (n :: t) := by
  intro v r d w h hr hd1 hd2
  obtain ⟨b, off, cap, rfl, hcap, hcm, hbl, hc⟩ := h
  have hcell : w.cell? ⟨b, off, none⟩ = some (.int .i64 n) := by have := hc 0 (by simp); simpa using this
  have hst := sp_tail hbl (by simpa using hcap) hcm hc
  have hww := ww_bd6 (l := n :: t) (by simp; omega) hr d
  have hF : ∀ r v, r ≤ 8 → 0 ≤ ww t r v ∧ ww t r v ≤ 531441 := fun r v hr => ww_bd6 (by omega) hr v
  have hlen : (n :: t).length = t.length + 1 := rfl
  rw [hlen] at hcap ⊢
  have hcm : cap ≤ 9223372036854775807 := by unfold maxLen at hcm; exact hcm
  have HF := Lib.hid hF
  have HST := Lib.hid hst
  have HIH := Lib.hid ih
  clear hc hst hlen hF ih
  obtain ⟨T, hT⟩ : ∃ T, ww (n :: t) r d = T := ⟨_, rfl⟩
  rw [hT] at hww ⊢
  have HT : Hid (rest (ww t) n r 0 d = T) := Lib.hid (by rw [rest_zero, ← hT]; rfl)
  clear hT
  obtain ⟨hw1, hw2⟩ := hww
  go_enter Try.func59, Try.ntmps59
  go_wp2
  go_loopw [7, 8] (fun s i wr => ∃ (k : Nat) (x : Int), k ≤ r + 1 ∧ i = .int .i64 k ∧ s = .int .i64 x ∧ 0 ≤ x ∧ x ≤ 531441 ∧ Hid (x + rest (ww t) n r k d = T) ∧ Below w.heap.size w wr) (fun _ i _ => r + 1 - (intOf i).toNat)
  case atStart => exact ⟨0, 0, by omega, rfl, rfl, by omega, by omega, Lib.hid (by rw [HT.out]; omega), Below.refl _ _⟩
  case round =>
    obtain ⟨k, x, hk, rfl, rfl, hx0, hx1, HX, hb⟩ := hrel
    by_cases hkr : k ≤ r
    · have hkn : 0 ≤ (k : Int) * n ∧ (k : Int) * n ≤ 8 * 500 := ⟨Int.mul_nonneg (by omega) (by omega), Int.mul_le_mul (by omega) hn2 (by omega) (by omega)⟩
      have hcell1 : wr.cell? ⟨b, off, none⟩ = some (.int .i64 n) := (hb.cell (p := ⟨b, off, none⟩) hbl).trans hcell
      have RS := fun h => rest_step (F := ww t) (n := n) (r := r) (k := k) (d := d) hkr h
      have RT := fun h => rest_stop (F := ww t) (n := n) (r := r) (k := k) (d := d) (.inr h)
      obtain ⟨P, hP⟩ : ∃ P, (k : Int) * n = P := ⟨_, rfl⟩
      rw [hP] at hkn RS RT
      obtain ⟨hp0, hp1⟩ := hkn
      have hwP : IntKind.i64.wrap ((k : Int) * n) = P := by rw [hP]; exact IntWalk.i64_in _ (by omega)
      by_cases hPd : P ≤ d
      · have RS := Lib.hid (RS hPd)
        have hNN := rest_nn (n := n) (HF.out) (k := k + 1) hr d
        have hfb := HF.out (r - k) (d - P) (by omega)
        have hsum := HX.out
        rw [RS.out] at hsum
        have IHc : ∀ W, Below w.heap.size w W → Hid (Calls Try.prog 59 #[tailV b off t.length cap, .int .i64 ((r : Int) - k), .int .i64 (d - P)] W fun e w' => e = .returned (.int .i64 (ww t (r - k) (d - P))) ∧ Below W.heap.size W w') := fun W hB => Lib.hid (by
          have := HIH.out _ (r - k) (d - P) W (HST.out.below hB (Nat.le_refl _)) (by omega) (by omega) (by omega)
          rw [show ((r - k : Nat) : Int) = (r : Int) - k by omega] at this
          exact this)
        obtain ⟨y, hy⟩ : ∃ y, ww t (r - k) (d - P) = y := ⟨_, rfl⟩
        rw [hy] at IHc hfb hsum
        have HS := Lib.hid hsum
        obtain ⟨hy0, hy1⟩ := hfb
        have hxy : x + y ≤ 531441 := by omega
        have hw3 : IntKind.i64.wrap ((r : Int) - k) = (r : Int) - k := IntWalk.i64_in _ (by omega)
        have hw4 : IntKind.i64.wrap (d - P) = d - P := IntWalk.i64_in _ (by omega)
        have hw5 : IntKind.i64.wrap (x + y) = x + y := IntWalk.i64_in _ (by omega)
        have S1a := And.intro ((run_drew (n := 1) hb).cell (p := ⟨b, off, none⟩) hbl |>.trans hcell) (run_drew (n := 1) hb)
        clear hP hsum RT hy HX hNN
        by_cases hc1 : cap = 1
        · have ht : t = [] := List.length_eq_zero_iff.1 (by omega)
          subst ht
          subst hc1
          simp only [tailV, if_true, List.length_nil] at IHc hcap ⊢
          go_wp2
          go_region_held3 (fun w' => w'.cell? ⟨b, off, none⟩ = some (.int .i64 n) ∧ Below w.heap.size w w') ((first | assumption | exact S1a | exact S1b)) ((first
            | (go_at_call 59; refine ((IHc _ (sc_bel (A := ⟨b, off, none⟩) (r := .int .i64 n) (by assumption))).out).mono ?_; rintro e w2 ⟨rfl, b2⟩; have S1b := sc_next (w := w) (A := ⟨b, off, none⟩) (r := .int .i64 n) hbl (by assumption) b2)))
          all_goals
            have hb2 := S1b.2
            go_wp2
            go_roundw
            case rel =>
              repeat apply Exists.intro
              refine ⟨⟨k + 1, x + y, by omega, by go_num, by go_num, by omega, by omega, Lib.hid (by have := HS.out; omega), hb2⟩, rfl⟩
            case measure => simp [intOf]; omega
        · have IHd : ∀ W, Below w.heap.size w W → Hid (Calls Try.prog 59 #[.slice (some ⟨b, off + 1, none⟩) t.length (cap - 1), .int .i64 ((r : Int) - k), .int .i64 (d - P)] W fun e w' => e = .returned (.int .i64 y) ∧ Below W.heap.size W w') := fun W hB => by
            have := IHc W hB
            unfold tailV at this
            rw [if_neg hc1] at this
            exact this
          have hc2 : 1 < cap := by omega
          have hc3 : (1 : Int) ≤ (t.length : Int) + 1 := by omega
          have hc4 : (t.length : Int) + 1 ≤ (cap : Int) := by omega
          have hc5 : (1 : Int) ≤ (cap : Int) := by omega
          have hc6 : ¬ cap - 1 = 0 := by omega
          clear IHc
          go_wp2
          go_region_held3 (fun w' => w'.cell? ⟨b, off, none⟩ = some (.int .i64 n) ∧ Below w.heap.size w w') ((first | assumption | exact S1a | exact S1b)) ((first
            | (go_at_call 59; refine ((IHd _ (sc_bel (A := ⟨b, off, none⟩) (r := .int .i64 n) (by assumption))).out).mono ?_; rintro e w2 ⟨rfl, b2⟩; have S1b := sc_next (w := w) (A := ⟨b, off, none⟩) (r := .int .i64 n) hbl (by assumption) b2)))
          all_goals
            have hb2 := S1b.2
            go_wp2
            go_roundw
            case rel =>
              repeat apply Exists.intro
              refine ⟨⟨k + 1, x + y, by omega, by go_num, by go_num, by omega, by omega, Lib.hid (by have := HS.out; omega), hb2⟩, rfl⟩
            case measure => simp [intOf]; omega
      · have HZ := Lib.hid (RT (by omega))
        have dP : decide (P ≤ d) = false := by simpa using hPd
        clear hP RS RT
        go_wp2
        go_ret
        exact ⟨ret_int (by have := HX.out; rw [HZ.out] at this; omega), hb⟩
    · have HZ := Lib.hid (rest_stop (F := ww t) (n := n) (r := r) (k := k) (d := d) (.inl hkr))
      have dk : decide ((k : Int) ≤ (r : Int)) = false := by simp; omega
      go_wp2
      go_ret
      exact ⟨ret_int (by have := HX.out; rw [HZ.out] at this; omega), hb⟩
end Go.Proofs.Ytmllokooceghiaa
