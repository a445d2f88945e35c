/-
  PayBoth in the model and in the program, by contracts. Condition: slices of at most 2^40 numbers.
-/
import Derived.Test.YtcgifmoddojnmaaZis
namespace Go.Proofs.Ytcgifmoddojnmaa
open Go.RowKit

/-- s is the least sum that is given: what is given back makes the difference. -/
def PyOk (xs ys : List Int) (n : Int) (s : Nat) : Prop := n ≤ s ∧ Wy xs s ≠ 0 ∧ Wy ys ((s : Int) - n) ≠ 0
def PyIs (xs ys : List Int) (n : Int) (s : Nat) : Prop := PyOk xs ys n s ∧ ∀ r, r < s → ¬ PyOk xs ys n r
noncomputable def askP (xs ys : List Int) (n : Int) : Bool := smallB xs && smallB ys && inB n 0 1000000
noncomputable def pyB (xs ys : List Int) (n : Int) : Bool := askP xs ys n && @decide (∃ s, PyIs xs ys n s) (Classical.propDecidable _)
noncomputable def pyS (xs ys : List Int) (n : Int) : Nat := @dite _ (∃ s, PyIs xs ys n s) (Classical.propDecidable _) (fun h => h.choose) (fun _ => 0)
noncomputable def pyX (xs ys : List Int) (n : Int) : Int := if pyB xs ys n = true then (pyS xs ys n : Int) else 0
noncomputable def pyY (xs ys : List Int) (n : Int) : Int := if pyB xs ys n = true then (pyS xs ys n : Int) - n else 0
theorem pyS_eq {xs ys : List Int} {n : Int} {s : Nat} (h : PyIs xs ys n s) : pyS xs ys n = s := by
  have hx : ∃ s, PyIs xs ys n s := ⟨s, h⟩
  have e : pyS xs ys n = hx.choose := by unfold pyS; rw [dif_pos hx]
  have h2 := hx.choose_spec
  rw [e]
  obtain ⟨q, hq⟩ : ∃ q, hx.choose = q := ⟨_, rfl⟩
  rw [hq] at h2 ⊢
  rcases Nat.lt_trichotomy q s with h3 | h3 | h3
  · exact absurd h2.1 (h.2 q h3)
  · exact h3
  · exact absurd h.1 (h2.2 s h3)
theorem py_no {xs ys : List Int} {n : Int} (h : pyB xs ys n = false) : pyB xs ys n = false ∧ pyX xs ys n = 0 ∧ pyY xs ys n = 0 := ⟨h, by simp [pyX, h], by simp [pyY, h]⟩
theorem py_yes {xs ys : List Int} {n : Int} {s : Nat} (ha : askP xs ys n = true) (h : PyIs xs ys n s) : pyB xs ys n = true ∧ pyX xs ys n = s ∧ pyY xs ys n = (s : Int) - n := by
  have e : pyB xs ys n = true := by
    simp only [pyB, ha, Bool.true_and, decide_eq_true_eq]
    exact ⟨s, h⟩
  exact ⟨e, by simp [pyX, e, pyS_eq h], by simp [pyY, e, pyS_eq h]⟩
theorem py_none {xs ys : List Int} {n : Int} (h : ∀ r, ¬ PyOk xs ys n r) : pyB xs ys n = false := by
  simp only [pyB, Bool.and_eq_false_iff, decide_eq_false_iff_not]
  exact .inr fun ⟨s, hs⟩ => h s hs.1
theorem ret_iib {a b c d : Int} {e f : Bool} (h : a = b) (g : c = d) (k : e = f) : Ending.returned (.tuple #[.int .i64 a, .int .i64 c, .bool e]) = .returned (.tuple #[.int .i64 b, .int .i64 d, .bool f]) := by rw [h, g, k]

set_option maxHeartbeats 4000000 in
set_option maxRecDepth 100000 in
theorem specPayBoth_any (v : Value) (xs : List Int) (u : Value) (ys : List Int) (n : Int) (w : World) (h : Sp w v xs) (hl : xs.length ≤ 1099511627776) (k : Sp w u ys) (kl : ys.length ≤ 1099511627776) :
    Calls Try.prog 53 #[v, u, .int .i64 n] w fun e w' => e = .returned (.tuple #[.int .i64 (pyX xs ys n), .int .i64 (pyY xs ys n), .bool (pyB xs ys n)]) ∧ Below w.heap.size w w' := by
  have hs := h.sv
  have ks := k.sv
  clear h k
  by_cases hx : smallB xs = true
  · by_cases hy : smallB ys = true
    · by_cases hi : inB n 0 1000000 = true
      · have ha : askP xs ys n = true := by simp [askP, hx, hy, hi]
        obtain ⟨hi0, hi1⟩ := inB_iff.1 hi
        have gx := (smallB_iff.1 hx).1
        have gy := (smallB_iff.1 hy).1
        obtain ⟨tx, tx2⟩ := gx.top
        obtain ⟨ty, ty2⟩ := gy.top
        have LX := Lib.hid (waysList_len xs)
        have LY := Lib.hid (waysList_len ys)
        have AX := Lib.hid (waysList_at xs)
        have AY := Lib.hid (waysList_at ys)
        have BX : Hid (∀ s : Int, (top xs : Int) < s → Wy xs s = 0) := Lib.hid (fun s hs => Wy_big xs s gx.mem (by omega))
        have BY : Hid (∀ s : Int, (top ys : Int) < s → Wy ys s = 0) := Lib.hid (fun s hs => Wy_big ys s gy.mem (by omega))
        obtain ⟨X, eX⟩ : ∃ X, top xs = X := ⟨_, rfl⟩
        obtain ⟨Y, eY⟩ : ∃ Y, top ys = Y := ⟨_, rfl⟩
        rw [eX] at LX AX BX tx2
        rw [eY] at LY AY BY ty2
        have HA := Lib.hid ha
        clear tx ty eX eY ha
        go_enter Try.func53, Try.ntmps53
        go_wp2_with fail
        refine (siSmall_any _ _ _ hs hl).mono ?_
        rintro e w1 ⟨rfl, b1⟩
        have h1 := hs.below b1 (Nat.le_refl _)
        have k1 := ks.below b1 (Nat.le_refl _)
        go_wp2_with fail
        refine (siSmall_any _ _ _ k1 kl).mono ?_
        rintro e w2 ⟨rfl, b2⟩
        have h2 := h1.below b2 (Nat.le_refl _)
        have k2 := k1.below b2 (Nat.le_refl _)
        have b2 := nxt b1 b2
        go_wp2_with fail
        refine (l1In_any _ _ _ _).mono ?_
        rintro e w2' ⟨rfl, rfl⟩
        go_wp2_with fail
        refine (piWays_any _ _ _ k2 gy).mono ?_
        rintro e w3 ⟨uy, rfl, oy, -, b3⟩
        have h3 := h2.below b3 (Nat.le_refl _)
        have b3 := nxt b2 b3
        obtain ⟨py, cy, rfl, cy'⟩ := oy.sv
        rw [LY.out] at cy' ⊢
        obtain ⟨gy', oy', rfl, ly, cy''⟩ := cy' (by omega)
        go_wp2_with fail
        refine (piWays_any _ _ _ h3 gx).mono ?_
        rintro e w4 ⟨ux, rfl, ox, -, b4⟩
        obtain ⟨px, cx, rfl, cx'⟩ := ox.sv
        rw [LX.out] at cx' ⊢
        obtain ⟨gx', ox', rfl, lx, cx''⟩ := cx' (by omega)
        have CX := Lib.hid cx''
        have CY := Lib.hid (fun j hj => (b4.cell (p := ⟨gy', oy' + j, none⟩) ly).trans (cy'' j hj))
        have b4 := nxt b3 b4
        clear cx' cx'' cy' cy'' ox oy b1 b2 b3 h1 h2 h3 k1 k2 hs ks hx hy hi
        go_wp2
        go_loop [30] (fun i => ∃ k : Nat, k ≤ X + 1 ∧ i = .int .i64 k ∧ Hid (∀ r, r < k → ¬ PyOk xs ys n r)) (fun i => X + 1 - (intOf i).toNat)
        case atStart => exact ⟨0, by omega, rfl, Lib.hid (fun r hr => by omega)⟩
        case round =>
          obtain ⟨k, hk, rfl, HJ⟩ := hrel
          by_cases hlt : k < X + 1
          · have c0 := CX.out k (by omega)
            rw [AX.out k hlt] at c0
            have na := (Wy_bd xs (k : Int)).1
            have J2 : ¬ PyOk xs ys n k → Hid (∀ r, r < k + 1 → ¬ PyOk xs ys n r) := fun hn => Lib.hid (fun r hr => by
              by_cases e : r = k
              · subst e; exact hn
              · exact HJ.out r (by omega))
            have JJ := Lib.hid J2
            obtain ⟨a, ea⟩ : ∃ a, Wy xs (k : Int) = a := ⟨_, rfl⟩
            rw [ea] at c0 na
            have EA := Lib.hid ea
            clear J2 ea
            have hki : (k : Int) < (X : Int) + 1 := by omega
            have hw : IntKind.i64.wrap ((k : Int) - n) = (k : Int) - n := IntWalk.i64_in _ (by omega)
            by_cases hz : a = 0
            · have HN := JJ.out (fun h => h.2.1 (by rw [EA.out]; exact hz))
              have d : decide (0 < a) = false := by simp; omega
              clear hz na
              go_wp2
              go_round
              case rel => exact ⟨k + 1, by omega, by go_num, HN⟩
              case measure => simp only [intOf]; omega
            · have d : decide (0 < a) = true := by simp; omega
              by_cases hkn : n ≤ (k : Int)
              · have d2 : decide (n ≤ (k : Int)) = true := by simpa using hkn
                by_cases hY : (k : Int) - n < (Y : Int) + 1
                · obtain ⟨q, eq⟩ : ∃ q : Nat, (k : Int) - n = (q : Int) := ⟨((k : Int) - n).toNat, by omega⟩
                  have c1 := CY.out q (by omega)
                  rw [AY.out q (by omega)] at c1
                  have nb := (Wy_bd ys (q : Int)).1
                  have ht : ((k : Int) - n).toNat = q := by omega
                  have hq0 : (0 : Int) ≤ (k : Int) - n := by omega
                  obtain ⟨b, eb⟩ : ∃ b, Wy ys (q : Int) = b := ⟨_, rfl⟩
                  rw [eb] at c1 nb
                  have EQ := Lib.hid eq
                  have EB := Lib.hid eb
                  have HZ := Lib.hid hz
                  have HKN := Lib.hid hkn
                  by_cases hb : b = 0
                  · have HN := JJ.out (fun h => h.2.2 (by rw [EQ.out, EB.out]; exact hb))
                    have d3 : decide (0 < b) = false := by simp; omega
                    clear hz na hb nb hkn eq eb
                    go_wp2
                    go_round
                    case rel => exact ⟨k + 1, by omega, by go_num, HN⟩
                    case measure => simp only [intOf]; omega
                  · have R := Lib.hid (py_yes (s := k) HA.out ⟨⟨HKN.out, by rw [EA.out]; exact HZ.out, by rw [EQ.out, EB.out]; exact hb⟩, HJ.out⟩)
                    have d3 : decide (0 < b) = true := by simp; omega
                    clear hz na hb nb hkn eq eb
                    go_wp2
                    refine bodyPost_ret (v := .tuple #[.int .i64 (k : Int), .int .i64 ((k : Int) - n), .bool true]) (by simp [results, Try.results53, go_sem]) rfl ⟨ret_iib R.out.2.1.symm R.out.2.2.symm R.out.1.symm, b4⟩
                · have HN := JJ.out (fun h => h.2.2 (BY.out _ (by omega)))
                  have d3 : decide ((k : Int) - n < (Y : Int) + 1) = false := by simpa using hY
                  clear hz na hkn
                  go_wp2
                  go_round
                  case rel => exact ⟨k + 1, by omega, by go_num, HN⟩
                  case measure => simp only [intOf]; omega
              · have HN := JJ.out (fun h => hkn h.1)
                have d2 : decide (n ≤ (k : Int)) = false := by simpa using hkn
                clear hz na
                go_wp2
                go_round
                case rel => exact ⟨k + 1, by omega, by go_num, HN⟩
                case measure => simp only [intOf]; omega
          · have R := Lib.hid (py_no (py_none (xs := xs) (ys := ys) (n := n) (fun r hr => by
              by_cases e : r < k
              · exact HJ.out r e hr
              · exact hr.2.1 (BX.out _ (by omega)))))
            go_wp2
            refine bodyPost_ret (v := .tuple #[.int .i64 0, .int .i64 0, .bool false]) (by simp [results, Try.results53, go_sem]) rfl ⟨ret_iib R.out.2.1.symm R.out.2.2.symm R.out.1.symm, b4⟩
      · have hi : inB n 0 1000000 = false := by simpa using hi
        have R := Lib.hid (py_no (xs := xs) (ys := ys) (n := n) (by simp [pyB, askP, hi]))
        go_enter Try.func53, Try.ntmps53
        go_wp2_with fail
        refine (siSmall_any _ _ _ hs hl).mono ?_
        rintro e w1 ⟨rfl, b1⟩
        have k1 := ks.below b1 (Nat.le_refl _)
        go_wp2_with fail
        refine (siSmall_any _ _ _ k1 kl).mono ?_
        rintro e w2 ⟨rfl, b2⟩
        have b2 := nxt b1 b2
        go_wp2_with fail
        refine (l1In_any _ _ _ _).mono ?_
        rintro e w2' ⟨rfl, rfl⟩
        go_wp2_with fail
        refine bodyPost_ret (v := .tuple #[.int .i64 0, .int .i64 0, .bool false]) (by simp [results, Try.results53, go_sem]) rfl ⟨ret_iib R.out.2.1.symm R.out.2.2.symm R.out.1.symm, b2⟩
    · have hy : smallB ys = false := by simpa using hy
      have R := Lib.hid (py_no (xs := xs) (ys := ys) (n := n) (by simp [pyB, askP, hy]))
      go_enter Try.func53, Try.ntmps53
      go_wp2_with fail
      refine (siSmall_any _ _ _ hs hl).mono ?_
      rintro e w1 ⟨rfl, b1⟩
      have k1 := ks.below b1 (Nat.le_refl _)
      go_wp2_with fail
      refine (siSmall_any _ _ _ k1 kl).mono ?_
      rintro e w2 ⟨rfl, b2⟩
      have b2 := nxt b1 b2
      go_wp2_with fail
      refine bodyPost_ret (v := .tuple #[.int .i64 0, .int .i64 0, .bool false]) (by simp [results, Try.results53, go_sem]) rfl ⟨ret_iib R.out.2.1.symm R.out.2.2.symm R.out.1.symm, b2⟩
  · have hx : smallB xs = false := by simpa using hx
    have R := Lib.hid (py_no (xs := xs) (ys := ys) (n := n) (by simp [pyB, askP, hx]))
    go_enter Try.func53, Try.ntmps53
    go_wp2_with fail
    refine (siSmall_any _ _ _ hs hl).mono ?_
    rintro e w1 ⟨rfl, b1⟩
    go_wp2_with fail
    refine bodyPost_ret (v := .tuple #[.int .i64 0, .int .i64 0, .bool false]) (by simp [results, Try.results53, go_sem]) rfl ⟨ret_iib R.out.2.1.symm R.out.2.2.symm R.out.1.symm, b1⟩

end Go.Proofs.Ytcgifmoddojnmaa
