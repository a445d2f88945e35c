/-
  PayBoth in the program, by contract. Condition: slices of at most 2^40 numbers.
-/
import Derived.Test.YtcgifmoddojnmaaZpy
namespace Go.Proofs.Ytcgifmoddojnmaa
open Go.RowKit

set_option maxHeartbeats 4000000 in
set_option maxRecDepth 100000 in
theorem implPayBoth_any (v : Value) (xs : List Int) (u : Value) (ys : List Int) (n : Int) (w : World) (h : Sp w v xs) (hl : xs.length ≤ 1099511627776) (k : Sp w u ys) (kl : ys.length ≤ 1099511627776) :
    Calls Try.prog 54 #[v, u, .int .i64 n] w fun e w' => e = .returned (.tuple #[.int .i64 (pyX xs ys n), .int .i64 (pyY xs ys n), .bool (pyB xs ys n)]) ∧ Below w.heap.size w w' := by
  have hs := h.sv
  have ks := k.sv
  clear h k
  by_cases hx : smallB xs = true
  · by_cases hy : smallB ys = true
    · by_cases hi : inB n 0 1000000 = true
      · have ha : askP xs ys n = true := by simp [askP, hx, hy, hi]
        obtain ⟨hi0, hi1⟩ := inB_iff.1 hi
        have gx := (smallB_iff.1 hx).1
        have gy := (smallB_iff.1 hy).1
        obtain ⟨tx, tx2⟩ := gx.top
        obtain ⟨ty, ty2⟩ := gy.top
        have BX : Hid (∀ s : Int, (top xs : Int) < s → Wy xs s = 0) := Lib.hid (fun s hs => Wy_big xs s gx.mem (by omega))
        have BY : Hid (∀ s : Int, (top ys : Int) < s → Wy ys s = 0) := Lib.hid (fun s hs => Wy_big ys s gy.mem (by omega))
        have TX := fun W (hW : Sv W v xs) => Lib.hid (tableOf_any v xs W hW gx)
        have TY := fun W (hW : Sv W u ys) => Lib.hid (tableOf_any u ys W hW gy)
        have WX := Lib.hid (wholeW xs)
        have WY := Lib.hid (wholeW ys)
        obtain ⟨X, eX⟩ : ∃ X, top xs = X := ⟨_, rfl⟩
        obtain ⟨Y, eY⟩ : ∃ Y, top ys = Y := ⟨_, rfl⟩
        rw [eX] at BX tx2 TX
        rw [eY] at BY ty2 TY
        have HA := Lib.hid ha
        clear tx ty eX eY ha gx gy
        go_enter Try.func54, Try.ntmps54
        go_wp2_with fail
        refine (areTogether_any _ _ _ hs hl).mono ?_
        rintro e w1 ⟨rfl, b1⟩
        have h1 := hs.below b1 (Nat.le_refl _)
        have k1 := ks.below b1 (Nat.le_refl _)
        go_wp2_with fail
        refine (areTogether_any _ _ _ k1 kl).mono ?_
        rintro e w2 ⟨rfl, b2⟩
        have h2 := h1.below b2 (Nat.le_refl _)
        have k2 := k1.below b2 (Nat.le_refl _)
        have b2 := nxt b1 b2
        go_wp2_with fail
        refine (isAskedV_any _ _).mono ?_
        rintro e w2' ⟨rfl, rfl⟩
        go_wp2_with fail
        refine (TX _ h2).out.mono ?_
        rintro e w3 ⟨gx', rfl, -, tbx, b3⟩
        have k3 := k2.below b3 (Nat.le_refl _)
        have b3 := nxt b2 b3
        go_wp2_with fail
        refine (TY _ k3).out.mono ?_
        rintro e w4 ⟨gy', rfl, -, tby, b4⟩
        have tbx := tbx.below b4 (Nat.le_refl _)
        have b4 := nxt b3 b4
        clear b1 b2 b3 h1 h2 k1 k2 k3 hs ks hx hy hi TX TY
        go_wp2
        go_loopw [11] (fun i wr => ∃ k : Nat, k ≤ 2000000 ∧ i = .int .i64 k ∧ Hid (∀ r, r < k → ¬ PyOk xs ys n r) ∧ Hid (n ≤ (k : Int)) ∧ wr = w4) (fun i _ => 2000000 - (intOf i).toNat)
        case atStart =>
          obtain ⟨q, rfl⟩ : ∃ q : Nat, n = (q : Int) := ⟨n.toNat, by omega⟩
          exact ⟨q, by omega, rfl, Lib.hid (fun r hr h => by have := h.1; omega), Lib.hid (Int.le_refl _), rfl⟩
        case round =>
          obtain ⟨k, hk, rfl, HJ, HN0, rfl⟩ := hrel
          have hkn := HN0.out
          by_cases hlt : (k : Int) < (X : Int) + 1
          · have J2 : ¬ PyOk xs ys n k → Hid (∀ r, r < k + 1 → ¬ PyOk xs ys n r) := fun hn => Lib.hid (fun r hr => by
              by_cases e : r = k
              · subst e; exact hn
              · exact HJ.out r (by omega))
            have HN1 : Hid (n ≤ ((k + 1 : Nat) : Int)) := Lib.hid (by omega)
            have JJ := Lib.hid J2
            clear J2
            have eX : sumB (X + 1) (fun j => Wy xs j) (k : Int) = !(Wy xs (k : Int) == 0) := by simp [sumB]; omega
            have hw : IntKind.i64.wrap ((k : Int) - n) = (k : Int) - n := IntWalk.i64_in _ (by omega)
            by_cases hz : Wy xs (k : Int) = 0
            · have HN := JJ.out (fun h => h.2.1 hz)
              have EX := Lib.hid (show sumB (X + 1) (fun j => Wy xs j) (k : Int) = false by rw [eX, hz]; rfl)
              clear eX hz
              go_wp2_with fail
              refine (isSum_any gx' _ _ _ _ (k : Int) _ tbx WX.out (by omega) (by omega)).mono ?_
              rintro e w5 ⟨rfl, rfl⟩
              rw [EX.out]
              go_wp2_with fail
              go_roundw
              case rel => exact ⟨k + 1, by omega, by go_num, HN, HN1, trivial⟩
              case measure => simp only [intOf]; omega
            · have EX := Lib.hid (show sumB (X + 1) (fun j => Wy xs j) (k : Int) = true by rw [eX]; simpa using hz)
              obtain ⟨q, eq⟩ : ∃ q : Nat, (k : Int) - n = (q : Int) := ⟨((k : Int) - n).toNat, by omega⟩
              have EQ := Lib.hid eq
              have hq0 : (0 : Int) ≤ (k : Int) - n := by omega
              have eY : sumB (Y + 1) (fun j => Wy ys j) (q : Int) = !(Wy ys (q : Int) == 0) := by
                have e1 : ((q : Int)).toNat = q := by omega
                by_cases hY : q < Y + 1
                · have d : decide ((q : Int) < ((Y + 1 : Nat) : Int)) = true := by simp; omega
                  simp only [sumB, d, e1, Bool.true_and]
                · have d : decide ((q : Int) < ((Y + 1 : Nat) : Int)) = false := by simp; omega
                  simp only [sumB, d, Bool.false_and]
                  rw [BY.out _ (by omega)]
                  rfl
              have HZ := Lib.hid hz
              by_cases hy2 : Wy ys (q : Int) = 0
              · have HN := JJ.out (fun h => h.2.2 (by rw [EQ.out]; exact hy2))
                have EY := Lib.hid (show sumB (Y + 1) (fun j => Wy ys j) (q : Int) = false by rw [eY, hy2]; rfl)
                clear eX hz eY hy2 eq
                go_wp2_with fail
                refine (isSum_any gx' _ _ _ _ (k : Int) _ tbx WX.out (by omega) (by omega)).mono ?_
                rintro e w5 ⟨rfl, rfl⟩
                rw [EX.out]
                go_wp2_with fail
                refine (isSum_any gy' _ _ _ _ ((k : Int) - n) _ tby WY.out hq0 (by omega)).mono ?_
                rintro e w5 ⟨rfl, rfl⟩
                rw [EQ.out, EY.out]
                go_wp2_with fail
                go_roundw
                case rel => exact ⟨k + 1, by omega, by go_num, HN, HN1, trivial⟩
                case measure => simp only [intOf]; omega
              · have EY := Lib.hid (show sumB (Y + 1) (fun j => Wy ys j) (q : Int) = true by rw [eY]; simpa using hy2)
                have R := Lib.hid (py_yes (s := k) HA.out ⟨⟨HN0.out, HZ.out, by rw [EQ.out]; exact hy2⟩, HJ.out⟩)
                clear eX hz eY hy2 eq
                go_wp2_with fail
                refine (isSum_any gx' _ _ _ _ (k : Int) _ tbx WX.out (by omega) (by omega)).mono ?_
                rintro e w5 ⟨rfl, rfl⟩
                rw [EX.out]
                go_wp2_with fail
                refine (isSum_any gy' _ _ _ _ ((k : Int) - n) _ tby WY.out hq0 (by omega)).mono ?_
                rintro e w5 ⟨rfl, rfl⟩
                rw [EQ.out, EY.out]
                go_wp2_with fail
                refine bodyPost_ret (v := .tuple #[.int .i64 (k : Int), .int .i64 ((k : Int) - n), .bool true]) (by simp [results, Try.results54, go_sem]) rfl ⟨ret_iib R.out.2.1.symm R.out.2.2.symm R.out.1.symm, b4⟩
          · have R := Lib.hid (py_no (py_none (xs := xs) (ys := ys) (n := n) (fun r hr => by
              by_cases e : r < k
              · exact HJ.out r e hr
              · exact hr.2.1 (BX.out _ (by omega)))))
            go_wp2_with fail
            refine bodyPost_ret (v := .tuple #[.int .i64 0, .int .i64 0, .bool false]) (by simp [results, Try.results54, go_sem]) rfl ⟨ret_iib R.out.2.1.symm R.out.2.2.symm R.out.1.symm, b4⟩
      · have hi : inB n 0 1000000 = false := by simpa using hi
        have R := Lib.hid (py_no (xs := xs) (ys := ys) (n := n) (by simp [pyB, askP, hi]))
        go_enter Try.func54, Try.ntmps54
        go_wp2_with fail
        refine (areTogether_any _ _ _ hs hl).mono ?_
        rintro e w1 ⟨rfl, b1⟩
        have k1 := ks.below b1 (Nat.le_refl _)
        go_wp2_with fail
        refine (areTogether_any _ _ _ k1 kl).mono ?_
        rintro e w2 ⟨rfl, b2⟩
        have b2 := nxt b1 b2
        go_wp2_with fail
        refine (isAskedV_any _ _).mono ?_
        rintro e w2' ⟨rfl, rfl⟩
        go_wp2_with fail
        refine bodyPost_ret (v := .tuple #[.int .i64 0, .int .i64 0, .bool false]) (by simp [results, Try.results54, go_sem]) rfl ⟨ret_iib R.out.2.1.symm R.out.2.2.symm R.out.1.symm, b2⟩
    · have hy : smallB ys = false := by simpa using hy
      have R := Lib.hid (py_no (xs := xs) (ys := ys) (n := n) (by simp [pyB, askP, hy]))
      go_enter Try.func54, Try.ntmps54
      go_wp2_with fail
      refine (areTogether_any _ _ _ hs hl).mono ?_
      rintro e w1 ⟨rfl, b1⟩
      have k1 := ks.below b1 (Nat.le_refl _)
      go_wp2_with fail
      refine (areTogether_any _ _ _ k1 kl).mono ?_
      rintro e w2 ⟨rfl, b2⟩
      have b2 := nxt b1 b2
      go_wp2_with fail
      refine bodyPost_ret (v := .tuple #[.int .i64 0, .int .i64 0, .bool false]) (by simp [results, Try.results54, go_sem]) rfl ⟨ret_iib R.out.2.1.symm R.out.2.2.symm R.out.1.symm, b2⟩
  · have hx : smallB xs = false := by simpa using hx
    have R := Lib.hid (py_no (xs := xs) (ys := ys) (n := n) (by simp [pyB, askP, hx]))
    go_enter Try.func54, Try.ntmps54
    go_wp2_with fail
    refine (areTogether_any _ _ _ hs hl).mono ?_
    rintro e w1 ⟨rfl, b1⟩
    go_wp2_with fail
    refine bodyPost_ret (v := .tuple #[.int .i64 0, .int .i64 0, .bool false]) (by simp [results, Try.results54, go_sem]) rfl ⟨ret_iib R.out.2.1.symm R.out.2.2.symm R.out.1.symm, b1⟩

end Go.Proofs.Ytcgifmoddojnmaa
