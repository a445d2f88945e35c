/-
  AreStamps, CanStamp, ReachOf, FewestStamps, CountStampWays and RoomFor in the model, by their contracts. Condition: slices of at most 2^40 numbers.
-/
import Derived.Test.YtmllokooceghiaaSwy
namespace Go.Proofs.Ytmllokooceghiaa
open Go.RowKit

theorem ret_bb {a b c d : Bool} (h : a = b) (g : c = d) : Ending.returned (.tuple #[.bool a, .bool c]) = .returned (.tuple #[.bool b, .bool d]) := by rw [h, g]
theorem ret_ib {k : IntKind} {a b : Int} {c d : Bool} (h : a = b) (g : c = d) : Ending.returned (.tuple #[.int k a, .bool c]) = .returned (.tuple #[.int k b, .bool d]) := by rw [h, g]
theorem ret_lb {a c : Value} {b d : Bool} (h : a = c) (g : b = d) : Ending.returned (.tuple #[a, .bool b]) = .returned (.tuple #[c, .bool d]) := by rw [h, g]
theorem vlB_yes {v : Int} (h : vlB v = true) : ∃ n : Nat, v = n ∧ n ≤ 4000 := by
  have := inB_iff.1 h
  exact ⟨v.toNat, by omega, by omega⟩
theorem ways_any : ∀ l : List Int, l.length ≤ 6 → (∀ n ∈ l, 1 ≤ n ∧ n ≤ 500) → WaysOk l := by
  intro l
  induction l with
  | nil =>
    intro _ _ v r d w h _ _ _
    refine (stWays_nil v r d w h.sv).mono ?_
    rintro e w' ⟨rfl, hb⟩
    exact ⟨rfl, hb⟩
  | cons n t ih =>
    intro hl hn
    exact ways_cons n t (by simpa using hl) (hn n (by simp)).1 (hn n (by simp)).2 (ih (by simp at hl; omega) fun x hx => hn x (by simp [hx]))

set_option maxHeartbeats 1000000 in
theorem specAreStamps_any (v : Value) (st : List Int) (w : World) (h : Sp w v st) (hl : st.length ≤ 1099511627776) :
    Calls Try.prog 17 #[v] w fun e w' => e = .returned (.bool (stmB st)) ∧ Below w.heap.size w w' := by
  have HS := Lib.hid h.sv
  go_enter Try.func17, Try.ntmps17
  go_wp2_with (go_at_call 49; refine (stGood_any _ _ _ HS.out hl).mono ?_; rintro e w' ⟨rfl, hb⟩)
  go_ret
  exact ⟨rfl, hb⟩

noncomputable def csB (st : List Int) (r v : Int) : Bool := rmB st r && vlB v
theorem csB_no {st : List Int} {r v : Int} (h : rmB st r = false) : csB st r v = false := by simp [csB, h]
theorem csB_out {st : List Int} {r v : Int} (h : vlB v = false) : csB st r v = false := by simp [csB, h]
theorem csB_yes {st : List Int} {r v : Int} (h : rmB st r = true) (h2 : vlB v = true) : csB st r v = true := by simp [csB, h, h2]
noncomputable def csR (st : List Int) (r v : Int) : Bool := csB st r v && decide (fw st v.toNat ≤ r)
set_option maxHeartbeats 2000000 in
set_option maxRecDepth 20000 in
theorem specCanStamp_any (v : Value) (st : List Int) (a1 a2 : Int) (w : World) (h : Sp w v st) (hl : st.length ≤ 1099511627776) :
    Calls Try.prog 21 #[v, .int .i64 a1, .int .i64 a2] w fun e w' => e = .returned (.tuple #[.bool (csR st a1 a2), .bool (csB st a1 a2)]) ∧ Below w.heap.size w w' := by
  have HS := Lib.hid h.sv
  clear h
  by_cases hr : rmB st a1 = true
  · by_cases hv : vlB a2 = true
    · obtain ⟨S, r, rfl, r1, r8⟩ := rmB_yes hr
      obtain ⟨n, rfl, n4⟩ := vlB_yes hv
      have R := Lib.hid (show csB st r n = true from csB_yes hr hv)
      have Q : Hid (decide (fw st n ≤ (r : Int)) = csR st r n) := Lib.hid (by simp [csR, csB_yes hr hv])
      have HT := Lib.hid S
      have hfl := fewT_len st n
      have hat := fewT_at st n n (by omega)
      clear S
      go_enter Try.func21, Try.ntmps21
      go_wp2_with fail
      refine (stRoom_any _ _ _ _ HS.out hl).mono ?_
      rw [hr]
      rintro e w1 ⟨rfl, b1⟩
      go_wp2_with fail
      refine (stValue_any _ _).mono ?_
      rw [hv]
      rintro e w1' ⟨rfl, rfl⟩
      go_wp2_with fail
      refine (stFew_any _ _ n _ (HS.out.below b1 (Nat.le_refl _)) HT.out (by omega)).mono ?_
      rintro e w2 ⟨u, rfl, o, a, b2⟩
      obtain ⟨cc, rfl, hlt, hct⟩ := rowOfOw o a
      rw [hfl] at hct ⊢
      have hcell := hct n (by omega)
      rw [hat] at hcell
      obtain ⟨x, ex⟩ : ∃ x, fw st n = x := ⟨_, rfl⟩
      rw [ex] at hcell Q
      have j1 : (n : Int) < (n : Int) + 1 := by omega
      have j0 : (0 : Int) ≤ n := by omega
      clear hct o a hat ex
      go_wp2
      go_ret2
      exact ⟨ret_bb Q.out R.out.symm, nxt b1 b2⟩
    · have hv : vlB a2 = false := by simpa using hv
      have R := Lib.hid (csB_out (st := st) (r := a1) hv)
      go_enter Try.func21, Try.ntmps21
      go_wp2_with fail
      refine (stRoom_any _ _ _ _ HS.out hl).mono ?_
      rw [hr]
      rintro e w1 ⟨rfl, b1⟩
      go_wp2_with fail
      refine (stValue_any _ _).mono ?_
      rw [hv]
      rintro e w1' ⟨rfl, rfl⟩
      go_wp2_with fail
      go_ret2
      exact ⟨ret_bb (by simp [csR, R.out]) R.out.symm, b1⟩
  · have hr : rmB st a1 = false := by simpa using hr
    have R := Lib.hid (csB_no (v := a2) hr)
    go_enter Try.func21, Try.ntmps21
    go_wp2_with fail
    refine (stRoom_any _ _ _ _ HS.out hl).mono ?_
    rw [hr]
    rintro e w1 ⟨rfl, b1⟩
    go_wp2_with fail
    go_ret2
    exact ⟨ret_bb (by simp [csR, R.out]) R.out.symm, b1⟩

noncomputable def roR (st : List Int) (r : Int) : Int := if rmB st r = true then (rch st r : Nat) else 0
set_option maxHeartbeats 2000000 in
theorem specReachOf_any (v : Value) (st : List Int) (a1 : Int) (w : World) (h : Sp w v st) (hl : st.length ≤ 1099511627776) :
    Calls Try.prog 23 #[v, .int .i64 a1] w fun e w' => e = .returned (.tuple #[.int .i64 (roR st a1), .bool (rmB st a1)]) ∧ Below w.heap.size w w' := by
  have HS := Lib.hid h.sv
  clear h
  by_cases hr : rmB st a1 = true
  · have Q : Hid ((rch st a1 : Int) = roR st a1) := Lib.hid (by simp [roR, hr])
    obtain ⟨S, r, rfl, r1, r8⟩ := rmB_yes hr
    have HT := Lib.hid S
    clear S
    go_enter Try.func23, Try.ntmps23
    go_wp2_with fail
    refine (stRoom_any _ _ _ _ HS.out hl).mono ?_
    rw [hr]
    rintro e w1 ⟨rfl, b1⟩
    go_wp2_with fail
    refine (stReach_any _ _ r _ (HS.out.below b1 (Nat.le_refl _)) HT.out r1 r8).mono ?_
    rintro e w2 ⟨rfl, b2⟩
    go_wp2_with fail
    go_ret2
    exact ⟨ret_ib Q.out hr.symm, nxt b1 b2⟩
  · have hr : rmB st a1 = false := by simpa using hr
    have Q : Hid (roR st a1 = 0) := Lib.hid (by simp [roR, hr])
    rw [hr]
    go_enter Try.func23, Try.ntmps23
    go_wp2_with fail
    refine (stRoom_any _ _ _ _ HS.out hl).mono ?_
    rw [hr]
    rintro e w1 ⟨rfl, b1⟩
    go_wp2_with fail
    go_ret2
    exact ⟨ret_ib Q.out.symm rfl, b1⟩

noncomputable def fsB (st : List Int) (v : Int) : Bool := stmB st && vlB v && !(fw st v.toNat == stNone)
noncomputable def fsR (st : List Int) (v : Int) : Int := if fsB st v = true then fw st v.toNat else 0
set_option maxHeartbeats 2000000 in
set_option maxRecDepth 20000 in
theorem specFewestStamps_any (v : Value) (st : List Int) (a1 : Int) (w : World) (h : Sp w v st) (hl : st.length ≤ 1099511627776) :
    Calls Try.prog 25 #[v, .int .i64 a1] w fun e w' => e = .returned (.tuple #[.int .i64 (fsR st a1), .bool (fsB st a1)]) ∧ Below w.heap.size w w' := by
  have HS := Lib.hid h.sv
  clear h
  by_cases hg : stmB st = true
  · by_cases hv : vlB a1 = true
    · have S := stmB_iff.1 hg
      obtain ⟨n, rfl, n4⟩ := vlB_yes hv
      have HT := Lib.hid S
      have hfl := fewT_len st n
      have hat := fewT_at st n n (by omega)
      have R : Hid (fsB st n = !(fw st n == 1000000)) := Lib.hid (by simp [fsB, hg, hv, stNone])
      have Q : Hid (fsR st n = if fsB st n = true then fw st n else 0) := Lib.hid (by simp [fsR])
      clear S
      go_enter Try.func25, Try.ntmps25
      go_wp2_with fail
      refine (stGood_any _ _ _ HS.out hl).mono ?_
      rw [hg]
      rintro e w1 ⟨rfl, b1⟩
      go_wp2_with fail
      refine (stValue_any _ _).mono ?_
      rw [hv]
      rintro e w1' ⟨rfl, rfl⟩
      go_wp2_with fail
      refine (stFew_any _ _ n _ (HS.out.below b1 (Nat.le_refl _)) HT.out (by omega)).mono ?_
      rintro e w2 ⟨u, rfl, o, a, b2⟩
      obtain ⟨cc, rfl, hlt, hct⟩ := rowOfOw o a
      rw [hfl] at hct ⊢
      have hcell := hct n (by omega)
      rw [hat] at hcell
      obtain ⟨x, ex⟩ : ∃ x, fw st n = x := ⟨_, rfl⟩
      rw [ex] at hcell Q R
      have j1 : (n : Int) < (n : Int) + 1 := by omega
      have j0 : (0 : Int) ≤ n := by omega
      clear hct o a hat ex
      by_cases hx : x = 1000000
      · have R2 := Lib.hid (show fsB st n = false by rw [R.out, hx]; rfl)
        have Q2 := Lib.hid (show fsR st n = 0 by rw [Q.out, R2.out]; rfl)
        subst hx
        clear Q R
        go_wp2
        go_ret2
        exact ⟨ret_ib Q2.out.symm R2.out.symm, nxt b1 b2⟩
      · have R2 := Lib.hid (show fsB st n = true by rw [R.out]; simpa using hx)
        have Q2 := Lib.hid (show fsR st n = x by rw [Q.out, R2.out]; rfl)
        have dx : (x == 1000000) = false := by simpa using hx
        clear Q R hx
        go_wp2
        go_ret2
        exact ⟨ret_ib Q2.out.symm R2.out.symm, nxt b1 b2⟩
    · have hv : vlB a1 = false := by simpa using hv
      have R := Lib.hid (show fsB st a1 = false by simp [fsB, hv])
      go_enter Try.func25, Try.ntmps25
      go_wp2_with fail
      refine (stGood_any _ _ _ HS.out hl).mono ?_
      rw [hg]
      rintro e w1 ⟨rfl, b1⟩
      go_wp2_with fail
      refine (stValue_any _ _).mono ?_
      rw [hv]
      rintro e w1' ⟨rfl, rfl⟩
      go_wp2_with fail
      go_ret2
      exact ⟨ret_ib (by simp [fsR, R.out]) R.out.symm, b1⟩
  · have hg : stmB st = false := by simpa using hg
    have R := Lib.hid (show fsB st a1 = false by simp [fsB, hg])
    go_enter Try.func25, Try.ntmps25
    go_wp2_with fail
    refine (stGood_any _ _ _ HS.out hl).mono ?_
    rw [hg]
    rintro e w1 ⟨rfl, b1⟩
    go_wp2_with fail
    go_ret2
    exact ⟨ret_ib (by simp [fsR, R.out]) R.out.symm, b1⟩

noncomputable def cwR (st : List Int) (r v : Int) : Int := if csB st r v = true then ww st r.toNat v else 0
set_option maxHeartbeats 2000000 in
set_option maxRecDepth 20000 in
theorem specCountStampWays_any (v : Value) (st : List Int) (a1 a2 : Int) (w : World) (h : Sp w v st) (hl : st.length ≤ 1099511627776) :
    Calls Try.prog 31 #[v, .int .i64 a1, .int .i64 a2] w fun e w' => e = .returned (.tuple #[.int .i64 (cwR st a1 a2), .bool (csB st a1 a2)]) ∧ Below w.heap.size w w' := by
  have HP := Lib.hid h
  have HS := Lib.hid h.sv
  clear h
  by_cases hr : rmB st a1 = true
  · by_cases hv : vlB a2 = true
    · obtain ⟨S, r, rfl, r1, r8⟩ := rmB_yes hr
      obtain ⟨n, rfl, n4⟩ := vlB_yes hv
      have R := Lib.hid (show csB st r n = true from csB_yes hr hv)
      have Q : Hid (ww st r n = cwR st r n) := Lib.hid (by simp [cwR, csB_yes hr hv])
      have HW := Lib.hid (ways_any st S.six S.mem)
      clear S
      go_enter Try.func31, Try.ntmps31
      go_wp2_with fail
      refine (stRoom_any _ _ _ _ HS.out hl).mono ?_
      rw [hr]
      rintro e w1 ⟨rfl, b1⟩
      go_wp2_with fail
      refine (stValue_any _ _).mono ?_
      rw [hv]
      rintro e w1' ⟨rfl, rfl⟩
      go_wp2_with fail
      refine (HW.out _ r n _ (HP.out.below b1 (Nat.le_refl _)) r8 (by omega) (by omega)).mono ?_
      rintro e w2 ⟨rfl, b2⟩
      go_wp2_with fail
      go_ret2
      exact ⟨ret_ib Q.out R.out.symm, nxt b1 b2⟩
    · have hv : vlB a2 = false := by simpa using hv
      have R := Lib.hid (csB_out (st := st) (r := a1) hv)
      go_enter Try.func31, Try.ntmps31
      go_wp2_with fail
      refine (stRoom_any _ _ _ _ HS.out hl).mono ?_
      rw [hr]
      rintro e w1 ⟨rfl, b1⟩
      go_wp2_with fail
      refine (stValue_any _ _).mono ?_
      rw [hv]
      rintro e w1' ⟨rfl, rfl⟩
      go_wp2_with fail
      go_ret2
      exact ⟨ret_ib (by simp [cwR, R.out]) R.out.symm, b1⟩
  · have hr : rmB st a1 = false := by simpa using hr
    have R := Lib.hid (csB_no (v := a2) hr)
    go_enter Try.func31, Try.ntmps31
    go_wp2_with fail
    refine (stRoom_any _ _ _ _ HS.out hl).mono ?_
    rw [hr]
    rintro e w1 ⟨rfl, b1⟩
    go_wp2_with fail
    go_ret2
    exact ⟨ret_ib (by simp [cwR, R.out]) R.out.symm, b1⟩
end Go.Proofs.Ytmllokooceghiaa
