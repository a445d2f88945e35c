/-
  Whether the program's table tells a sum, the run of both sides, and CanBalance, WaysBoth, RunBoth and BestBoth in the model and in the program, by contracts. Condition: slices of at most 2^40 numbers.
-/
import Derived.Test.YtcgifmoddojnmaaZby
namespace Go.Proofs.Ytcgifmoddojnmaa
open Go.RowKit

/-- No entry is half told: without ways there is nothing. -/
def Whole (A B C : Nat → Int) : Prop := ∀ j, A j = 0 → B j = 0 ∧ C j = 0
theorem wholeB (xs : List Int) : Whole (fun j => Sy xs j) (fun j => Fs xs j) (fun j => Gs 0 xs j) := fun j h => ⟨Fs_zero xs j h, Gs_zero xs 0 j h⟩
theorem wholeW (xs : List Int) : Whole (fun j => Wy xs j) (fun j => Fw xs j) (fun j => Sg 0 xs j) := fun j h => ⟨Fw_zero xs j h, Sg_zero xs 0 j h⟩
def sumB (n : Nat) (A : Nat → Int) (s : Int) : Bool := decide (s < n) && !(A s.toNat == 0)

set_option maxHeartbeats 2000000 in
theorem isSum_any (g n : Nat) (A B C : Nat → Int) (s : Int) (w : World) (hT : Tb w g n A B C) (hz : Whole A B C) (hs : 0 ≤ s) (_hn : n ≤ 1099511627776) :
    Calls Try.prog 91 #[.slice (some ⟨g, 0, none⟩) n n, .int .i64 s] w fun e w' => e = .returned (.bool (sumB n A s)) ∧ w = w' := by
  by_cases hlt : s < n
  · obtain ⟨q, rfl⟩ : ∃ q : Nat, s = (q : Int) := ⟨s.toNat, by omega⟩
    have d1 : decide ((q : Int) < (n : Int)) = true := by simpa using hlt
    obtain ⟨c1, c2, c3, -, -, -⟩ := hT.cells (j := q) (by omega)
    have e0 : sumB n A (q : Int) = !(A q == 0) := by simp [sumB]; omega
    have E0 := Lib.hid e0
    clear hT e0
    by_cases hA : A q = 0
    · obtain ⟨hB, hC⟩ := hz q hA
      rw [hA] at c1
      rw [hB] at c2
      rw [hC] at c3
      have R := Lib.hid (show sumB n A (q : Int) = false by rw [E0.out, hA]; rfl)
      clear hA hB hC hz E0
      go_enter Try.func91, Try.ntmps91
      go_wp2
      go_ret
      exact ⟨ret_bool R.out.symm, rfl⟩
    · have R := Lib.hid (show sumB n A (q : Int) = true by rw [E0.out]; simpa using hA)
      obtain ⟨a, ea⟩ : ∃ a, A q = a := ⟨_, rfl⟩
      rw [ea] at c1 hA
      have d2 : (a == 0) = false := by simpa using hA
      clear hA hz E0 ea
      go_enter Try.func91, Try.ntmps91
      go_wp2
      go_ret
      exact ⟨ret_bool R.out.symm, rfl⟩
  · have d1 : decide (s < (n : Int)) = false := by simpa using hlt
    have R := Lib.hid (show sumB n A s = false by simp only [sumB, d1, Bool.false_and])
    clear hT hz
    go_enter Try.func91, Try.ntmps91
    go_wp2
    go_ret
    exact ⟨ret_bool R.out.symm, rfl⟩


/-- The run: all of 1, .. up to it are values, and the next one is not. -/
def IsRun (xs : List Int) (r : Nat) : Prop := (∀ j : Nat, 1 ≤ j → j ≤ r → Sy xs j ≠ 0) ∧ Sy xs ((r : Int) + 1) = 0
noncomputable def runS (xs : List Int) : Nat := @dite _ (∃ r, IsRun xs r) (Classical.propDecidable _) (fun h => h.choose) (fun _ => 0)
theorem runS_eq {xs : List Int} {r : Nat} (h : IsRun xs r) : runS xs = r := by
  have hx : ∃ r, IsRun xs r := ⟨r, h⟩
  have e : runS xs = hx.choose := by unfold runS; rw [dif_pos hx]
  have h2 := hx.choose_spec
  rw [e]
  obtain ⟨q, hq⟩ : ∃ q, hx.choose = q := ⟨_, rfl⟩
  rw [hq] at h2 ⊢
  rcases Nat.lt_trichotomy q r with h3 | h3 | h3
  · exact absurd h2.2 (by have := h.1 (q + 1) (by omega) (by omega); simpa using this)
  · exact h3
  · exact absurd h.2 (by have := h2.1 (r + 1) (by omega) (by omega); simpa using this)

theorem runS_le {xs : List Int} (hg : Good xs) : runS xs ≤ top xs := by
  by_cases hx : ∃ r, IsRun xs r
  · obtain ⟨r, hr⟩ := hx
    rw [runS_eq hr]
    by_cases h : r ≤ top xs
    · exact h
    · refine absurd (Sy_big xs r hg.mem ?_) (hr.1 r (by omega) (Nat.le_refl _))
      have := hg.top.1
      unfold sumP at this
      omega
  · unfold runS
    rw [dif_neg hx]
    omega

set_option maxHeartbeats 4000000 in
set_option maxRecDepth 100000 in
theorem siRun_any (v : Value) (xs : List Int) (w : World) (h : Sv w v xs) (hg : Good xs) :
    Calls Try.prog 75 #[v] w fun e w' => e = .returned (.int .i64 (runS xs : Nat)) ∧ Below w.heap.size w w' := by
  obtain ⟨htop, htop2⟩ := hg.top
  have HL := Lib.hid (syList_len xs)
  have SL := Lib.hid (syList_at xs)
  have HSU := Lib.hid htop
  have BIG : Hid (∀ s : Int, (top xs : Int) < s → Sy xs s = 0) := Lib.hid (fun s hs => Sy_big xs s hg.mem (by have := HSU.out; unfold sumP at this; omega))
  obtain ⟨T, eT⟩ : ∃ T, top xs = T := ⟨_, rfl⟩
  rw [eT] at HL SL HSU BIG htop2
  clear htop eT
  go_enter Try.func75, Try.ntmps75
  go_wp2_with fail
  refine (siWays_any _ _ _ h hg).mono ?_
  rintro e w1 ⟨u, rfl, o1, b1⟩
  have h1 := h.below b1 (Nat.le_refl _)
  obtain ⟨p, cap, rfl, hx⟩ := o1.sv
  rw [HL.out] at hx ⊢
  obtain ⟨b, off, rfl, hbl, hc⟩ := hx (by omega)
  have HC := Lib.hid hc
  clear hx hc o1 h
  go_wp2_with fail
  go_loopw [4] (fun i wr => ∃ k : Nat, k ≤ T ∧ i = .int .i64 k ∧ Hid (∀ j : Nat, 1 ≤ j → j ≤ k → Sy xs j ≠ 0) ∧ wr = w1) (fun i _ => T - (intOf i).toNat)
  case atStart => exact ⟨0, Nat.zero_le _, rfl, Lib.hid (fun j h1 h2 => by omega), rfl⟩
  case round =>
    obtain ⟨k, hk, rfl, HA, rfl⟩ := hrel
    by_cases hlt : k < T
    · have hcell := HC.out (T + k + 1) (by omega)
      rw [SL.out (T + k + 1) (by omega), show ((T + k + 1 : Nat) : Int) - (T : Int) = (k : Int) + 1 by omega] at hcell
      have hnn := (Sy_bd xs ((k : Int) + 1)).1
      obtain ⟨a, ea⟩ : ∃ a, Sy xs ((k : Int) + 1) = a := ⟨_, rfl⟩
      rw [ea] at hcell hnn
      have EA := Lib.hid ea
      have d1 : decide ((k : Int) < (T : Int)) = true := by simp; omega
      have hw1 : IntKind.i64.wrap ((T : Int) + k) = (T : Int) + k := IntWalk.i64_in _ (by omega)
      have hw2 : IntKind.i64.wrap ((T : Int) + k + 1) = (T : Int) + k + 1 := IntWalk.i64_in _ (by omega)
      have ht : ((T : Int) + k + 1).toNat = T + k + 1 := by omega
      have hi0 : (0 : Int) ≤ (T : Int) + k + 1 := by omega
      have hi1 : (T : Int) + k + 1 < 2 * (T : Int) + 1 := by omega
      clear ea
      by_cases hz : a = 0
      · subst hz
        have R : Hid (runS xs = k) := Lib.hid (runS_eq ⟨HA.out, EA.out⟩)
        go_wp2_with fail
        refine (piSum_any _ _ _ h1 hg).mono ?_
        rintro e w1' ⟨rfl, rfl⟩
        rw [← HSU.out]
        go_wp2_with fail
        refine (piSum_any _ _ _ h1 hg).mono ?_
        rintro e w1' ⟨rfl, rfl⟩
        rw [← HSU.out]
        go_wp2_with fail
        go_ret
        exact ⟨ret_int (by rw [R.out]), b1⟩
      · have ha : 0 < a := by omega
        have HA2 : Hid (∀ j : Nat, 1 ≤ j → j ≤ k + 1 → Sy xs j ≠ 0) := Lib.hid (fun j j1 j2 => by
          by_cases e : j = k + 1
          · subst e
            rw [show ((k + 1 : Nat) : Int) = (k : Int) + 1 by omega, EA.out]
            exact hz
          · exact HA.out j j1 (by omega))
        have d2 : decide (0 < a) = true := by simpa using ha
        clear hz hnn
        go_wp2_with fail
        refine (piSum_any _ _ _ h1 hg).mono ?_
        rintro e w1' ⟨rfl, rfl⟩
        rw [← HSU.out]
        go_wp2_with fail
        refine (piSum_any _ _ _ h1 hg).mono ?_
        rintro e w1' ⟨rfl, rfl⟩
        rw [← HSU.out]
        go_wp2_with fail
        go_roundw
        case rel => exact ⟨k + 1, by omega, by go_num, HA2, trivial⟩
        case measure => simp only [intOf]; omega
    · have hkT : k = T := by omega
      subst hkT
      have R : Hid (runS xs = k) := Lib.hid (runS_eq ⟨HA.out, BIG.out _ (by omega)⟩)
      go_wp2_with fail
      refine (piSum_any _ _ _ h1 hg).mono ?_
      rintro e w1' ⟨rfl, rfl⟩
      rw [← HSU.out]
      go_wp2_with fail
      go_ret
      exact ⟨ret_int (by rw [R.out]), b1⟩

set_option maxHeartbeats 4000000 in
set_option maxRecDepth 100000 in
theorem runOfBoth_any (v : Value) (xs : List Int) (w : World) (h : Sp w v xs) (hg : Good xs) :
    Calls Try.prog 77 #[v] w fun e w' => e = .returned (.int .i64 (runS xs : Nat)) ∧ Below w.heap.size w w' := by
  obtain ⟨htop, htop2⟩ := hg.top
  have BIG : Hid (∀ s : Int, (top xs : Int) < s → Sy xs s = 0) := Lib.hid (fun s hs => Sy_big xs s hg.mem (by unfold sumP at htop; omega))
  have HW := Lib.hid (wholeB xs)
  go_enter Try.func77, Try.ntmps77
  go_wp2_with fail
  refine (tableBoth_any _ _ _ h hg).mono ?_
  rintro e w1 ⟨g, rfl, hgs, htb, b1⟩
  have htb : Tb w1 g (top xs + 1) (fun j => Sy xs j) (fun j => Fs xs j) (fun j => Gs 0 xs j) := htb
  obtain ⟨T, eT⟩ : ∃ T, top xs = T := ⟨_, rfl⟩
  rw [eT] at htb BIG htop2 ⊢
  clear htop eT
  go_wp2_with fail
  go_loopw [4] (fun i wr => ∃ k : Nat, k ≤ T ∧ i = .int .i64 k ∧ Hid (∀ j : Nat, 1 ≤ j → j ≤ k → Sy xs j ≠ 0) ∧ wr = w1) (fun i _ => T - (intOf i).toNat)
  case atStart => exact ⟨0, Nat.zero_le _, rfl, Lib.hid (fun j h1 h2 => by omega), rfl⟩
  case round =>
    obtain ⟨k, hk, rfl, HA, rfl⟩ := hrel
    have hw1 : IntKind.i64.wrap ((k : Int) + 1) = (k : Int) + 1 := IntWalk.i64_in _ (by omega)
    have eS : sumB (T + 1) (fun j => Sy xs j) ((k : Int) + 1) = !(Sy xs ((k : Int) + 1) == 0) := by
      have e1 : ((k : Int) + 1).toNat = k + 1 := by omega
      by_cases hlt : k < T
      · have d : decide ((k : Int) + 1 < ((T + 1 : Nat) : Int)) = true := by simp; omega
        simp only [sumB, d, e1, Bool.true_and]
        rfl
      · have d : decide ((k : Int) + 1 < ((T + 1 : Nat) : Int)) = false := by simp; omega
        simp only [sumB, d, Bool.false_and]
        rw [BIG.out _ (by omega)]
        rfl
    by_cases hz : Sy xs ((k : Int) + 1) = 0
    · have R : Hid (runS xs = k) := Lib.hid (runS_eq ⟨HA.out, hz⟩)
      have ES := Lib.hid (show sumB (T + 1) (fun j => Sy xs j) ((k : Int) + 1) = false by rw [eS, hz]; rfl)
      clear eS hz
      go_wp2_with fail
      refine (isSum_any g _ _ _ _ ((k : Int) + 1) _ htb HW.out (by omega) (by omega)).mono ?_
      rintro e w2' ⟨rfl, rfl⟩
      rw [ES.out]
      go_wp2_with fail
      go_ret
      exact ⟨ret_int (by rw [R.out]), b1⟩
    · have ES := Lib.hid (show sumB (T + 1) (fun j => Sy xs j) ((k : Int) + 1) = true by rw [eS]; simpa using hz)
      have hkT : k < T := by
        by_cases h : k < T
        · exact h
        · exact absurd (BIG.out _ (by omega)) hz
      have HA2 : Hid (∀ j : Nat, 1 ≤ j → j ≤ k + 1 → Sy xs j ≠ 0) := Lib.hid (fun j j1 j2 => by
        by_cases e : j = k + 1
        · subst e
          rw [show ((k + 1 : Nat) : Int) = (k : Int) + 1 by omega]
          exact hz
        · exact HA.out j j1 (by omega))
      clear eS hz
      go_wp2_with fail
      refine (isSum_any g _ _ _ _ ((k : Int) + 1) _ htb HW.out (by omega) (by omega)).mono ?_
      rintro e w2' ⟨rfl, rfl⟩
      rw [ES.out]
      go_wp2_with fail
      go_roundw
      case rel => exact ⟨k + 1, by omega, by go_num, HA2, trivial⟩
      case measure => simp only [intOf]; omega

noncomputable def rbR (xs : List Int) : Int := if smallB xs = true then (runS xs : Int) else 0
theorem rbR_yes {xs : List Int} (h : smallB xs = true) : rbR xs = runS xs := by simp [rbR, h]
theorem rbR_no {xs : List Int} (h : smallB xs = false) : rbR xs = 0 := by simp [rbR, h]
noncomputable def bbB (xs : List Int) : Bool := smallB xs && !decide (xs.length = 20) && decide ((runS xs : Int) = sumP xs) && decide (2 * (runS xs : Int) + 1 ≤ 10000)
noncomputable def bbR (xs : List Int) : Int := if bbB xs = true then 2 * (runS xs : Int) + 1 else 0
theorem bb_no {xs : List Int} (h : bbB xs = false) : bbB xs = false ∧ bbR xs = 0 := ⟨h, by simp [bbR, h]⟩
theorem bb_yes {xs : List Int} (h : bbB xs = true) : bbB xs = true ∧ bbR xs = 2 * (runS xs : Int) + 1 := ⟨h, by simp [bbR, h]⟩

set_option maxHeartbeats 1000000 in
theorem specRunBoth_any (v : Value) (xs : List Int) (w : World) (h : Sp w v xs) (hl : xs.length ≤ 1099511627776) :
    Calls Try.prog 33 #[v] w fun e w' => e = .returned (.tuple #[.int .i64 (rbR xs), .bool (smallB xs)]) ∧ Below w.heap.size w w' := by
  by_cases hg : smallB xs = true
  · have hgood := (smallB_iff.1 hg).1
    have R := Lib.hid (rbR_yes hg)
    have HG := Lib.hid hg
    go_enter Try.func33, Try.ntmps33
    go_wp2_with fail
    refine (siSmall_any _ _ _ h.sv hl).mono ?_
    rintro e w1 ⟨rfl, b1⟩
    go_wp2_with fail
    refine (siRun_any _ _ _ (h.sv.below b1 (Nat.le_refl _)) hgood).mono ?_
    rintro e w2 ⟨rfl, b2⟩
    go_wp2_with fail
    go_ret2
    exact ⟨ret_ib R.out.symm HG.out.symm, nxt b1 b2⟩
  · have hg : smallB xs = false := by simpa using hg
    have R := Lib.hid (rbR_no hg)
    have HG := Lib.hid hg
    go_enter Try.func33, Try.ntmps33
    go_wp2_with fail
    refine (siSmall_any _ _ _ h.sv hl).mono ?_
    rintro e w1 ⟨rfl, b1⟩
    go_wp2_with fail
    go_ret2
    exact ⟨ret_ib R.out.symm HG.out.symm, b1⟩

set_option maxHeartbeats 1000000 in
theorem implRunBoth_any (v : Value) (xs : List Int) (w : World) (h : Sp w v xs) (hl : xs.length ≤ 1099511627776) :
    Calls Try.prog 34 #[v] w fun e w' => e = .returned (.tuple #[.int .i64 (rbR xs), .bool (smallB xs)]) ∧ Below w.heap.size w w' := by
  by_cases hg : smallB xs = true
  · have hgood := (smallB_iff.1 hg).1
    have R := Lib.hid (rbR_yes hg)
    have HG := Lib.hid hg
    go_enter Try.func34, Try.ntmps34
    go_wp2_with fail
    refine (areTogether_any _ _ _ h.sv hl).mono ?_
    rintro e w1 ⟨rfl, b1⟩
    go_wp2_with fail
    refine (runOfBoth_any _ _ _ (h.below b1 (Nat.le_refl _)) hgood).mono ?_
    rintro e w2 ⟨rfl, b2⟩
    go_wp2_with fail
    go_ret2
    exact ⟨ret_ib R.out.symm HG.out.symm, nxt b1 b2⟩
  · have hg : smallB xs = false := by simpa using hg
    have R := Lib.hid (rbR_no hg)
    have HG := Lib.hid hg
    go_enter Try.func34, Try.ntmps34
    go_wp2_with fail
    refine (areTogether_any _ _ _ h.sv hl).mono ?_
    rintro e w1 ⟨rfl, b1⟩
    go_wp2_with fail
    go_ret2
    exact ⟨ret_ib R.out.symm HG.out.symm, b1⟩

set_option maxHeartbeats 1000000 in
theorem specWaysBoth_any (v : Value) (xs : List Int) (s : Int) (w : World) (h : Sp w v xs) (hl : xs.length ≤ 1099511627776) :
    Calls Try.prog 23 #[v, .int .i64 s] w fun e w' => e = .returned (.tuple #[.int .i64 (vdA xs s), .bool (askV xs s)]) ∧ Below w.heap.size w w' := by
  by_cases ha : askV xs s = true
  · have hg := askV_iff.1 ha
    have hgood := (sideB_iff.1 hg.1).1
    obtain ⟨hs0, hs1⟩ := inB_iff.1 hg.2
    have R := Lib.hid (vd_yes ha)
    have HA := Lib.hid ha
    go_enter Try.func23, Try.ntmps23
    go_wp2_with fail
    refine (siAsked_any _ _ _ _ h.sv hl).mono ?_
    rintro e w1 ⟨rfl, b1⟩
    go_wp2_with fail
    refine (siMake_any _ _ _ _ (h.sv.below b1 (Nat.le_refl _)) hgood (by omega) (by omega)).mono ?_
    rintro e w2 ⟨rfl, b2⟩
    clear ha hg
    go_wp2_with fail
    go_ret2
    exact ⟨ret_ib R.out.1.symm HA.out.symm, nxt b1 b2⟩
  · have ha : askV xs s = false := by simpa using ha
    have Z := Lib.hid (vd_no ha)
    have HA := Lib.hid ha
    go_enter Try.func23, Try.ntmps23
    go_wp2_with fail
    refine (siAsked_any _ _ _ _ h.sv hl).mono ?_
    rintro e w1 ⟨rfl, b1⟩
    go_wp2_with fail
    go_ret2
    exact ⟨ret_ib Z.out.1.symm HA.out.symm, b1⟩

set_option maxHeartbeats 1000000 in
theorem specCanBalance_any (v : Value) (xs : List Int) (s : Int) (w : World) (h : Sp w v xs) (hl : xs.length ≤ 1099511627776) :
    Calls Try.prog 19 #[v, .int .i64 s] w fun e w' => e = .returned (.tuple #[.bool (canV xs s), .bool (askV xs s)]) ∧ Below w.heap.size w w' := by
  by_cases ha : askV xs s = true
  · have hg := askV_iff.1 ha
    have hgood := (sideB_iff.1 hg.1).1
    obtain ⟨hs0, hs1⟩ := inB_iff.1 hg.2
    have HA := Lib.hid ha
    have C := Lib.hid (show canV xs s = decide (0 < Sy xs s) by
      have h0 := (Sy_bd xs s).1
      unfold canV
      rw [(vd_yes ha).1]
      by_cases e : Sy xs s = 0
      · rw [e]; rfl
      · have : 0 < Sy xs s := by omega
        simp [e, this])
    go_enter Try.func19, Try.ntmps19
    go_wp2_with fail
    refine (siAsked_any _ _ _ _ h.sv hl).mono ?_
    rintro e w1 ⟨rfl, b1⟩
    go_wp2_with fail
    refine (siMake_any _ _ _ _ (h.sv.below b1 (Nat.le_refl _)) hgood (by omega) (by omega)).mono ?_
    rintro e w2 ⟨rfl, b2⟩
    clear ha hg
    go_wp2_with fail
    go_ret2
    exact ⟨ret_bb C.out.symm HA.out.symm, nxt b1 b2⟩
  · have ha : askV xs s = false := by simpa using ha
    have Z := Lib.hid (vd_no ha)
    have HA := Lib.hid ha
    go_enter Try.func19, Try.ntmps19
    go_wp2_with fail
    refine (siAsked_any _ _ _ _ h.sv hl).mono ?_
    rintro e w1 ⟨rfl, b1⟩
    go_wp2_with fail
    go_ret2
    exact ⟨ret_bb (by unfold canV; rw [Z.out.1]; rfl) HA.out.symm, b1⟩

end Go.Proofs.Ytcgifmoddojnmaa
