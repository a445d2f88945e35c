/-
  BestBoth in the model and in the program, by contracts. Condition: slices of at most 2^40 numbers.
-/
import Derived.Test.YtcgifmoddojnmaaZis
namespace Go.Proofs.Ytcgifmoddojnmaa
open Go.RowKit

set_option maxHeartbeats 4000000 in
set_option maxRecDepth 100000 in
theorem specBestBoth_any (v : Value) (xs : List Int) (w : World) (h : Sp w v xs) (hl : xs.length ≤ 1099511627776) :
    Calls Try.prog 41 #[v] w fun e w' => e = .returned (.tuple #[.int .i64 (bbR xs), .bool (bbB xs)]) ∧ Below w.heap.size w w' := by
  have hs := h.sv
  obtain ⟨b, off, cap, rfl, -, -, -, -⟩ := h
  by_cases hg : smallB xs = true
  · have hgood := (smallB_iff.1 hg).1
    have hsm := (smallB_iff.1 hg).2
    have hrl := runS_le hgood
    have htop := hgood.top
    obtain ⟨r, er⟩ : ∃ r, runS xs = r := ⟨_, rfl⟩
    by_cases h20 : xs.length = 20
    · have d : ((xs.length : Int) == 20) = true := by simp; omega
      have R := Lib.hid (bb_no (xs := xs) (by simp [bbB, h20]))
      clear h20
      go_enter Try.func41, Try.ntmps41
      go_wp2_with fail
      refine (siSmall_any _ _ _ hs hl).mono ?_
      rintro e w1 ⟨rfl, b1⟩
      go_wp2_with fail
      go_ret2
      exact ⟨ret_ib R.out.2.symm R.out.1.symm, b1⟩
    · have d : ((xs.length : Int) == 20) = false := by simp; omega
      by_cases hrs : (r : Int) = sumP xs
      · by_cases hm : 2 * (r : Int) + 1 ≤ 10000
        · have R := Lib.hid (bb_yes (xs := xs) (by simp [bbB, hg, h20, er, hrs]; omega))
          rw [er] at R
          have SR := fun W (hW : Sv W (.slice (some ⟨b, off, none⟩) xs.length cap) xs) => Lib.hid (siRun_any _ xs W hW hgood)
          rw [er] at SR
          have HRS := Lib.hid hrs
          have hr0 : (r : Int) ≤ 200000 := by omega
          have hm2 : ¬ 10000 < 2 * (r : Int) + 1 := by omega
          clear h20 hrs er hrl htop hsm hm
          go_enter Try.func41, Try.ntmps41
          go_wp2_with fail
          refine (siSmall_any _ _ _ hs hl).mono ?_
          rintro e w1 ⟨rfl, b1⟩
          have h1 := hs.below b1 (Nat.le_refl _)
          go_wp2_with fail
          refine (SR _ h1).out.mono ?_
          rintro e w2 ⟨rfl, b2⟩
          have h2 := h1.below b2 (Nat.le_refl _)
          have b2 := nxt b1 b2
          go_wp2_with fail
          refine (piSum_any _ _ _ h2 hgood).mono ?_
          rintro e w2' ⟨rfl, rfl⟩
          rw [← HRS.out]
          go_wp2_with fail
          refine (SR _ h2).out.mono ?_
          rintro e w3 ⟨rfl, b3⟩
          have h3 := h2.below b3 (Nat.le_refl _)
          have b3 := nxt b2 b3
          go_wp2_with fail
          refine (SR _ h3).out.mono ?_
          rintro e w4 ⟨rfl, b4⟩
          have b4 := nxt b3 b4
          go_wp2_with fail
          go_ret2
          exact ⟨ret_ib R.out.2.symm R.out.1.symm, b4⟩
        · have R := Lib.hid (bb_no (xs := xs) (by simp only [bbB, er, Bool.and_eq_false_iff, decide_eq_false_iff_not]; exact .inr hm))
          have SR := fun W (hW : Sv W (.slice (some ⟨b, off, none⟩) xs.length cap) xs) => Lib.hid (siRun_any _ xs W hW hgood)
          rw [er] at SR
          have HRS := Lib.hid hrs
          have hr0 : (r : Int) ≤ 200000 := by omega
          clear h20 hrs er hrl htop hsm
          go_enter Try.func41, Try.ntmps41
          go_wp2_with fail
          refine (siSmall_any _ _ _ hs hl).mono ?_
          rintro e w1 ⟨rfl, b1⟩
          have h1 := hs.below b1 (Nat.le_refl _)
          go_wp2_with fail
          refine (SR _ h1).out.mono ?_
          rintro e w2 ⟨rfl, b2⟩
          have h2 := h1.below b2 (Nat.le_refl _)
          have b2 := nxt b1 b2
          go_wp2_with fail
          refine (piSum_any _ _ _ h2 hgood).mono ?_
          rintro e w2' ⟨rfl, rfl⟩
          rw [← HRS.out]
          go_wp2_with fail
          refine (SR _ h2).out.mono ?_
          rintro e w3 ⟨rfl, b3⟩
          have b3 := nxt b2 b3
          go_wp2_with fail
          go_ret2
          exact ⟨ret_ib R.out.2.symm R.out.1.symm, b3⟩
      · have R := Lib.hid (bb_no (xs := xs) (by
          have e : decide ((r : Int) = sumP xs) = false := by simpa using hrs
          simp [bbB, er, e]))
        have SR := fun W (hW : Sv W (.slice (some ⟨b, off, none⟩) xs.length cap) xs) => Lib.hid (siRun_any _ xs W hW hgood)
        rw [er] at SR
        have d2 : ((r : Int) != sumP xs) = true := by simpa using hrs
        obtain ⟨S, eS⟩ : ∃ S, sumP xs = S := ⟨_, rfl⟩
        have HS := Lib.hid eS
        rw [eS] at d2
        clear h20 hrs er hrl eS hsm htop
        go_enter Try.func41, Try.ntmps41
        go_wp2_with fail
        refine (siSmall_any _ _ _ hs hl).mono ?_
        rintro e w1 ⟨rfl, b1⟩
        have h1 := hs.below b1 (Nat.le_refl _)
        go_wp2_with fail
        refine (SR _ h1).out.mono ?_
        rintro e w2 ⟨rfl, b2⟩
        have h2 := h1.below b2 (Nat.le_refl _)
        have b2 := nxt b1 b2
        go_wp2_with fail
        refine (piSum_any _ _ _ h2 hgood).mono ?_
        rintro e w2' ⟨rfl, rfl⟩
        rw [HS.out]
        go_wp2_with fail
        go_ret2
        exact ⟨ret_ib R.out.2.symm R.out.1.symm, b2⟩
  · have hg : smallB xs = false := by simpa using hg
    have R := Lib.hid (bb_no (xs := xs) (by simp [bbB, hg]))
    go_enter Try.func41, Try.ntmps41
    go_wp2_with fail
    refine (siSmall_any _ _ _ hs hl).mono ?_
    rintro e w1 ⟨rfl, b1⟩
    go_wp2_with fail
    go_ret2
    exact ⟨ret_ib R.out.2.symm R.out.1.symm, b1⟩

set_option maxHeartbeats 4000000 in
set_option maxRecDepth 100000 in
theorem implBestBoth_any (v : Value) (xs : List Int) (w : World) (h : Sp w v xs) (hl : xs.length ≤ 1099511627776) :
    Calls Try.prog 42 #[v] w fun e w' => e = .returned (.tuple #[.int .i64 (bbR xs), .bool (bbB xs)]) ∧ Below w.heap.size w w' := by
  have hsp := h
  have hs := h.sv
  have hfld := field_sum
  obtain ⟨b, off, cap, rfl, -, -, -, -⟩ := h
  by_cases hg : smallB xs = true
  · have hgood := (smallB_iff.1 hg).1
    have hsm := (smallB_iff.1 hg).2
    have hrl := runS_le hgood
    have htop := hgood.top
    obtain ⟨r, er⟩ : ∃ r, runS xs = r := ⟨_, rfl⟩
    by_cases h20 : xs.length = 20
    · have d : ((xs.length : Int) == 20) = true := by simp; omega
      have R := Lib.hid (bb_no (xs := xs) (by simp [bbB, h20]))
      clear h20
      go_enter Try.func42, Try.ntmps42
      go_wp2_with fail
      refine (areTogether_any _ _ _ hs hl).mono ?_
      rintro e w1 ⟨rfl, b1⟩
      go_wp2_with fail
      go_ret2
      exact ⟨ret_ib R.out.2.symm R.out.1.symm, b1⟩
    · have d : ((xs.length : Int) == 20) = false := by simp; omega
      have hr0 : (r : Int) ≤ 200000 := by omega
      have SR := fun W (hW : Sp W (.slice (some ⟨b, off, none⟩) xs.length cap) xs) => Lib.hid (runOfBoth_any _ xs W hW hgood)
      rw [er] at SR
      obtain ⟨S, eS⟩ : ∃ S, sumP xs = S := ⟨_, rfl⟩
      have HS := Lib.hid eS
      by_cases hrs : (r : Int) = S
      · have HRS := Lib.hid hrs
        have d3 : decide ((r : Int) < S) = false := by simp; omega
        by_cases hm : 2 * (r : Int) + 1 ≤ 10000
        · have R := Lib.hid (bb_yes (xs := xs) (by simp [bbB, hg, h20, er, eS, hrs]; omega))
          rw [er] at R
          have hin : inB (2 * (r : Int) + 1) 1 10000 = true := inB_iff.2 ⟨by omega, hm⟩
          clear h20 hrs er hrl eS htop hsm
          go_enter Try.func42, Try.ntmps42
          go_wp2_with fail
          refine (areTogether_any _ _ _ hs hl).mono ?_
          rintro e w1 ⟨rfl, b1⟩
          have h1 := hsp.below b1 (Nat.le_refl _)
          go_wp2_with fail
          refine (SR _ h1).out.mono ?_
          rintro e w2 ⟨rfl, b2⟩
          have h2 := h1.below b2 (Nat.le_refl _)
          have b2 := nxt b1 b2
          go_wp2_with fail
          refine (sumOfAll_any _ _ _ h2.sv hgood).mono ?_
          rintro e w3 ⟨rfl, b3⟩
          have b3 := nxt b2 b3
          rw [HS.out]
          go_wp2_with fail
          refine (isPiece_any _ _).mono ?_
          rintro e w3' ⟨rfl, rfl⟩
          go_wp2_with fail
          go_ret2
          exact ⟨ret_ib R.out.2.symm R.out.1.symm, b3⟩
        · have R := Lib.hid (bb_no (xs := xs) (by simp only [bbB, er, Bool.and_eq_false_iff, decide_eq_false_iff_not]; exact .inr hm))
          have hin : inB (2 * (r : Int) + 1) 1 10000 = false := by
            by_cases e : inB (2 * (r : Int) + 1) 1 10000 = true
            · exact absurd (inB_iff.1 e).2 hm
            · simpa using e
          clear h20 hrs er hrl eS htop hsm
          go_enter Try.func42, Try.ntmps42
          go_wp2_with fail
          refine (areTogether_any _ _ _ hs hl).mono ?_
          rintro e w1 ⟨rfl, b1⟩
          have h1 := hsp.below b1 (Nat.le_refl _)
          go_wp2_with fail
          refine (SR _ h1).out.mono ?_
          rintro e w2 ⟨rfl, b2⟩
          have h2 := h1.below b2 (Nat.le_refl _)
          have b2 := nxt b1 b2
          go_wp2_with fail
          refine (sumOfAll_any _ _ _ h2.sv hgood).mono ?_
          rintro e w3 ⟨rfl, b3⟩
          have b3 := nxt b2 b3
          rw [HS.out]
          go_wp2_with fail
          refine (isPiece_any _ _).mono ?_
          rintro e w3' ⟨rfl, rfl⟩
          go_wp2_with fail
          go_ret2
          exact ⟨ret_ib R.out.2.symm R.out.1.symm, b3⟩
      · have R := Lib.hid (bb_no (xs := xs) (by
          have e : decide ((r : Int) = S) = false := by simpa using hrs
          simp [bbB, er, eS, e]))
        have d3 : decide ((r : Int) < S) = true := by simp; omega
        clear h20 hrs er hrl eS htop hsm
        go_enter Try.func42, Try.ntmps42
        go_wp2_with fail
        refine (areTogether_any _ _ _ hs hl).mono ?_
        rintro e w1 ⟨rfl, b1⟩
        have h1 := hsp.below b1 (Nat.le_refl _)
        go_wp2_with fail
        refine (SR _ h1).out.mono ?_
        rintro e w2 ⟨rfl, b2⟩
        have h2 := h1.below b2 (Nat.le_refl _)
        have b2 := nxt b1 b2
        go_wp2_with fail
        refine (sumOfAll_any _ _ _ h2.sv hgood).mono ?_
        rintro e w3 ⟨rfl, b3⟩
        have b3 := nxt b2 b3
        rw [HS.out]
        go_wp2_with fail
        go_ret2
        exact ⟨ret_ib R.out.2.symm R.out.1.symm, b3⟩
  · have hg : smallB xs = false := by simpa using hg
    have R := Lib.hid (bb_no (xs := xs) (by simp [bbB, hg]))
    go_enter Try.func42, Try.ntmps42
    go_wp2_with fail
    refine (areTogether_any _ _ _ hs hl).mono ?_
    rintro e w1 ⟨rfl, b1⟩
    go_wp2_with fail
    go_ret2
    exact ⟨ret_ib R.out.2.symm R.out.1.symm, b1⟩

end Go.Proofs.Ytcgifmoddojnmaa
