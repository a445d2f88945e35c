/-
  FirstBoth in the program, by contract. Condition: slices of at most 2^40 numbers.
-/
import Derived.Test.YtcgifmoddojnmaaZfb
namespace Go.Proofs.Ytcgifmoddojnmaa
open Go.RowKit

theorem field_md (a b c : Int) (w : World) : (Instr.field 52 (.agg #[.int .i64 a, .int .i64 b, .int .i64 c]) 2).run Try.prog w = .ok (.int .i64 c) w := by rfl

set_option maxHeartbeats 8000000 in
set_option maxRecDepth 100000 in
theorem implFirstBoth_any (v : Value) (xs : List Int) (s : Int) (w : World) (hsp : Sp w v xs) (hl : xs.length ≤ 1099511627776) :
    Calls Try.prog 26 #[v, .int .i64 s] w fun e w' => e = .returned (.tuple #[.string (fbR xs s), .bool (fbB xs s)]) ∧ Below w.heap.size w w' := by
  have h := hsp.sv
  have hfld := field_md
  by_cases hg : sideB xs = true
  · have hgood := (sideB_iff.1 hg).1
    have hl12 := (sideB_iff.1 hg).2
    by_cases hi : inB s 0 1000000 = true
    · have ha := askV_yes hg hi
      obtain ⟨hs0, hs1⟩ := inB_iff.1 hi
      have HMM := Lib.hid hgood.mem
      have HSU : Hid (sumFrom 0 xs ≤ 200000) := Lib.hid (by have := hgood.sum; unfold sumP at this; omega)
      have TB := fun W hW => Lib.hid (tableBoth_any v xs W hW hgood)
      have OK := Lib.hid (gsOk xs)
      have HTT : Hid (top xs + 1 = (sumFrom 0 xs).toNat + 1) := Lib.hid rfl
      obtain ⟨T, eT⟩ : ∃ T, top xs + 1 = T := ⟨_, rfl⟩
      rw [eT] at TB HTT
      clear eT
      have VI := fun (g : Nat) (u : Int) (W : World) (hT : Tbs W g (Gs 0 xs) xs) (h0 : -1099511627776 ≤ u) (h1 : u ≤ 1099511627776) => Lib.hid (valueIn_any g T (Gs 0 xs) xs u W hT OK.out HTT.out HMM.out HSU.out h0 h1)
      have HZR := Lib.hid (fun u (hz : Sy xs u = 0) => show Fs xs u = 0 ∧ Gs 0 xs u = 0 from ⟨Fs_zero xs u hz, Gs_zero xs 0 u hz⟩)
      have HNX := Lib.hid (fun (k : Nat) (hk : k < xs.length) (u : Int) => Gs_next hk u)
      by_cases hz : Sy xs s = 0
      · have R := Lib.hid (fb_no (xs := xs) (s := s) (by simp [fbB, hz]))
        have HZ := Lib.hid hz
        have HZ2 := Lib.hid (HZR.out s hz)
        clear hz ha
        go_enter Try.func26, Try.ntmps26
        go_wp2_with fail
        refine (areSide_any _ _ _ h hl).mono ?_
        rintro e w1 ⟨rfl, b1⟩
        go_wp2_with fail
        refine (isAskedV_any _ _).mono ?_
        rintro e w1' ⟨rfl, rfl⟩
        go_wp2_with fail
        refine (TB _ (hsp.below b1 (Nat.le_refl _))).out.mono ?_
        rintro e w2 ⟨g, rfl, -, htb, b2⟩
        have b2 := nxt b1 b2
        go_wp2_with fail
        refine (VI g s _ htb (by omega) (by omega)).out.mono ?_
        rintro e w3 ⟨rfl, b3⟩
        rw [HZ.out, HZ2.out.1, HZ2.out.2]
        go_wp2_with fail
        go_ret2
        exact ⟨ret_sb R.out.2.symm R.out.1.symm, nxt b2 b3⟩
      · have R := Lib.hid (fb_yes (xs := xs) (s := s) (by simp [fbB, ha, hz]))
        have d : (Sy xs s == 0) = false := by simpa using hz
        obtain ⟨b, off, cap, rfl, hcap, hcm, hbl, hc⟩ := id hsp
        have HC := Lib.hid hc
        have V0 := fun g W hT => VI g s W hT (by omega) (by omega)
        obtain ⟨a0, ea0⟩ : ∃ a, Sy xs s = a := ⟨_, rfl⟩
        obtain ⟨b0, eb0⟩ : ∃ a, Fs xs s = a := ⟨_, rfl⟩
        obtain ⟨c0, ec0⟩ : ∃ a, Gs 0 xs s = a := ⟨_, rfl⟩
        rw [ea0] at d
        rw [ea0, eb0, ec0] at V0
        clear hc hz ha ea0 eb0 ec0
        go_enter Try.func26, Try.ntmps26
        go_wp2_with fail
        refine (areSide_any _ _ _ h hl).mono ?_
        rintro e w1 ⟨rfl, b1⟩
        go_wp2_with fail
        refine (isAskedV_any _ _).mono ?_
        rintro e w1' ⟨rfl, rfl⟩
        go_wp2_with fail
        refine (TB _ (hsp.below b1 (Nat.le_refl _))).out.mono ?_
        rintro e w2 ⟨g, rfl, -, htb, b2⟩
        have b2 := nxt b1 b2
        go_wp2_with fail
        refine (V0 g _ htb).out.mono ?_
        rintro e w3 ⟨rfl, b3⟩
        have htb := htb.below b3 (Nat.le_refl _)
        have b3 := nxt b2 b3
        clear b2 b1 V0
        go_wp2_with fail
        go_loopw [1, 7, 28] (fun n o i wr => ∃ (k : Nat) (S : ByteArray) (t : Int), k ≤ xs.length ∧ i = .int .i64 k ∧ n = .int .i64 t ∧ o = .string S ∧ S.size = k ∧ Hid (S = bstr (fbS xs s k).1) ∧ Hid ((fbS xs s k).2 = t) ∧ -(10000 * (k : Int)) ≤ t ∧ t ≤ 1000000 + 10000 * k ∧ Below w3.heap.size w3 wr) (fun _ _ i _ => xs.length - (intOf i).toNat)
        case atStart => exact ⟨0, ⟨#[]⟩, s, Nat.zero_le _, rfl, rfl, rfl, rfl, Lib.hid rfl, Lib.hid rfl, by omega, by omega, Below.refl _ _⟩
        case round =>
          obtain ⟨k, S, t, hk, rfl, rfl, rfl, hz, HS, HF, ht0, ht1, hb⟩ := hrel
          have hz0 := hb.size
          by_cases hlt : k < xs.length
          · have hcell := (hb.cell (p := ⟨b, off + k, none⟩) (Nat.lt_of_lt_of_le hbl b3.size)).trans ((b3.cell (p := ⟨b, off + k, none⟩) hbl).trans (HC.out k hlt))
            obtain ⟨x, ex⟩ : ∃ x, xs.getD k 0 = x := ⟨_, rfl⟩
            obtain ⟨hx1, hx2⟩ := hgood.bd hlt ex
            rw [ex] at hcell
            have hcase := fbD_cases (t := t) ex
            have E1 : (fbS xs s (k + 1)).1 = (fbS xs s k).1 ++ [sc (fbD xs k t)] := by show _ ++ [sc (fbD xs k (fbS xs s k).2)] = _; rw [HF.out]
            have E2 : (fbS xs s (k + 1)).2 = t - fbD xs k t * x := by show (fbS xs s k).2 - fbD xs k (fbS xs s k).2 * xs.getD k 0 = _; rw [HF.out, ex]
            have V1 := fun W (hW : Below w3.heap.size w3 W) => VI g (t - x) W (htb.below hW (Nat.le_refl _)) (by omega) (by omega)
            have V2 := fun W (hW : Below w3.heap.size w3 W) => VI g (t + x) W (htb.below hW (Nat.le_refl _)) (by omega) (by omega)
            rw [← HNX.out k hlt (t - x), ← HNX.out k hlt (t + x)] at hcase
            have nA : (¬ (k : Int) < Gs 0 xs (t - x)) ↔ Sy (xs.drop (k + 1)) (t - x) = 0 := by rw [HNX.out k hlt]; exact Decidable.not_not
            have nB : (¬ (k : Int) < Gs 0 xs (t + x)) ↔ Sy (xs.drop (k + 1)) (t + x) = 0 := by rw [HNX.out k hlt]; exact Decidable.not_not
            rw [← nA, ← nB] at hcase
            obtain ⟨A, eA⟩ : ∃ A, Gs 0 xs (t - x) = A := ⟨_, rfl⟩
            obtain ⟨B, eB⟩ : ∃ B, Gs 0 xs (t + x) = B := ⟨_, rfl⟩
            rw [eA] at V1 hcase
            rw [eB] at V2 hcase
            obtain ⟨y1, ey1⟩ : ∃ A, Sy xs (t - x) = A := ⟨_, rfl⟩
            obtain ⟨y2, ey2⟩ : ∃ A, Fs xs (t - x) = A := ⟨_, rfl⟩
            obtain ⟨y3, ey3⟩ : ∃ A, Sy xs (t + x) = A := ⟨_, rfl⟩
            obtain ⟨y4, ey4⟩ : ∃ A, Fs xs (t + x) = A := ⟨_, rfl⟩
            rw [ey1, ey2] at V1
            rw [ey3, ey4] at V2
            have SO := fun (d : Int) W => Lib.hid (signOf_any d W)
            obtain ⟨D, eD⟩ : ∃ D, fbD xs k t = D := ⟨_, rfl⟩
            rw [eD] at hcase E1 E2
            have DS : bstr (fbS xs s k).1 ++ bstr [sc D] = bstr (fbS xs s (k + 1)).1 := by rw [E1, ← bstr_app]
            rw [← HS.out] at DS
            have hS1 : (bstr [sc D]).size = 1 := rfl
            have w1 : IntKind.i64.wrap (t - x) = t - x := IntWalk.i64_in _ (by omega)
            have w2' : IntKind.i64.wrap (t + x) = t + x := IntWalk.i64_in _ (by omega)
            clear ex eA eB eD ey1 ey2 ey3 ey4 nA nB E1
            have fin : ∀ (S1 : ByteArray), S1 = bstr [sc D] → (¬ S.size + S1.size > 9223372036854775807) ∧ Hid ((S ++ S1).size = k + 1) ∧ Hid (S ++ S1 = bstr (fbS xs s (k + 1)).1) := fun S1 h1 => by
              subst h1
              exact ⟨by omega, Lib.hid (by rw [ByteArray.size_append]; omega), Lib.hid DS⟩
            rcases hcase with ⟨hA, rfl⟩ | ⟨hA, hB, rfl⟩ | ⟨hA, hB, rfl⟩
            · have SO1 := SO 1
              obtain ⟨S1, eS⟩ : ∃ S1, bstr [sc 1] = S1 := ⟨_, rfl⟩
              rw [eS] at SO1
              obtain ⟨f1, f2, f3⟩ := fin S1 eS.symm
              have HF2 : Hid ((fbS xs s (k + 1)).2 = t - x) := Lib.hid (by rw [E2]; omega)
              clear E2 DS hS1 fin eS hz SO
              go_wp2_with fail
              refine (V1 _ hb).out.mono ?_
              rintro e w4 ⟨rfl, b4⟩
              have b4 := hb.trans (b4.mono hz0)
              go_wp2_with (go_at_call 62; refine (SO1 _).out.mono ?_; rintro e w' ⟨rfl, rfl⟩)
              go_roundw
              case rel => exact ⟨k + 1, _, t - x, by omega, by go_num, rfl, rfl, f2.out, f3, HF2, by omega, by omega, b4⟩
              case measure => simp only [intOf]; omega
            · have SO1 := SO (-1)
              obtain ⟨S1, eS⟩ : ∃ S1, bstr [sc (-1)] = S1 := ⟨_, rfl⟩
              rw [eS] at SO1
              obtain ⟨f1, f2, f3⟩ := fin S1 eS.symm
              have HF2 : Hid ((fbS xs s (k + 1)).2 = t + x) := Lib.hid (by rw [E2]; omega)
              have w5 : IntKind.i64.wrap (t - -x) = t + x := by rw [show t - -x = t + x by omega]; exact w2'
              have w6 : IntKind.i64.wrap (-x) = -x := IntWalk.i64_in _ (by omega)
              clear E2 DS hS1 fin eS hz SO
              go_wp2_with fail
              refine (V1 _ hb).out.mono ?_
              rintro e w4 ⟨rfl, b4⟩
              have b4 := hb.trans (b4.mono hz0)
              go_wp2_with fail
              refine (V2 _ b4).out.mono ?_
              rintro e w5' ⟨rfl, b5⟩
              have b5 := b4.trans (b5.mono b4.size)
              go_wp2_with (go_at_call 62; refine (SO1 _).out.mono ?_; rintro e w' ⟨rfl, rfl⟩)
              go_roundw
              case rel => exact ⟨k + 1, _, t + x, by omega, by go_num, by first | rfl | (congr 1; omega), rfl, f2.out, f3, HF2, by omega, by omega, b5⟩
              case measure => simp only [intOf]; omega
            · have SO1 := SO 0
              obtain ⟨S1, eS⟩ : ∃ S1, bstr [sc 0] = S1 := ⟨_, rfl⟩
              rw [eS] at SO1
              obtain ⟨f1, f2, f3⟩ := fin S1 eS.symm
              have HF2 : Hid ((fbS xs s (k + 1)).2 = t) := Lib.hid (by rw [E2]; omega)
              clear E2 DS hS1 fin eS hz SO
              go_wp2_with fail
              refine (V1 _ hb).out.mono ?_
              rintro e w4 ⟨rfl, b4⟩
              have b4 := hb.trans (b4.mono hz0)
              go_wp2_with fail
              refine (V2 _ b4).out.mono ?_
              rintro e w5' ⟨rfl, b5⟩
              have b5 := b4.trans (b5.mono b4.size)
              go_wp2_with (go_at_call 62; refine (SO1 _).out.mono ?_; rintro e w' ⟨rfl, rfl⟩)
              go_roundw
              case rel => exact ⟨k + 1, _, t, by omega, by go_num, by first | rfl | (congr 1; omega), rfl, f2.out, f3, HF2, by omega, by omega, b5⟩
              case measure => simp only [intOf]; omega
          · have hke : k = xs.length := by omega
            subst hke
            go_wp2
            go_ret2
            exact ⟨ret_sb (by rw [R.out.2, HS.out]) R.out.1.symm, nxt b3 hb⟩
    · have hi : inB s 0 1000000 = false := by simpa using hi
      have R := Lib.hid (fb_no (xs := xs) (s := s) (by simp [fbB, askV_out hi]))
      go_enter Try.func26, Try.ntmps26
      go_wp2_with fail
      refine (areSide_any _ _ _ h hl).mono ?_
      rintro e w1 ⟨rfl, b1⟩
      go_wp2_with fail
      refine (isAskedV_any _ _).mono ?_
      rintro e w1' ⟨rfl, rfl⟩
      go_wp2_with fail
      go_ret2
      exact ⟨ret_sb R.out.2.symm R.out.1.symm, b1⟩
  · have hg : sideB xs = false := by simpa using hg
    have R := Lib.hid (fb_no (xs := xs) (s := s) (by simp [fbB, askV_no hg]))
    go_enter Try.func26, Try.ntmps26
    go_wp2_with fail
    refine (areSide_any _ _ _ h hl).mono ?_
    rintro e w1 ⟨rfl, b1⟩
    go_wp2_with fail
    go_ret2
    exact ⟨ret_sb R.out.2.symm R.out.1.symm, b1⟩

end Go.Proofs.Ytcgifmoddojnmaa
