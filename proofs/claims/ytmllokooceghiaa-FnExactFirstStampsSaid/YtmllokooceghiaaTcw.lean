/-
  CountStampWays and FirstStamps in the program, by their contracts. Condition: slices of at most 2^40 numbers.
-/
import Derived.Test.YtmllokooceghiaaTwy
import Derived.Test.YtmllokooceghiaaTst
namespace Go.Proofs.Ytmllokooceghiaa
open Go.RowKit

set_option maxHeartbeats 4000000 in
set_option maxRecDepth 20000 in
theorem implCountStampWays_any (v : Value) (st : List Int) (a1 a2 : Int) (w : World) (h : Sp w v st) (hl : st.length ≤ 1099511627776) :
    Calls Try.prog 32 #[v, .int .i64 a1, .int .i64 a2] w fun e w' => e = .returned (.tuple #[.int .i64 (cwR st a1 a2), .bool (csB st a1 a2)]) ∧ Below w.heap.size w w' := by
  have HS := Lib.hid h.sv
  by_cases hr : rmB st a1 = true
  · by_cases hv : vlB a2 = true
    · have G := Lib.hid (csB_yes hr hv)
      obtain ⟨S, r, rfl, r1, r8⟩ := rmB_yes hr
      obtain ⟨u, rfl, hu⟩ := vlB_yes hv
      have h6 := S.six
      have WI := Lib.hid (waysI_any st h6 S.mem v r u w h r8 (by omega) (by omega))
      have R : Hid ((((wl st r u).length : Nat) : Int) = cwR st r u) := Lib.hid (by unfold cwR; rw [G.out, wl_len]; simp)
      clear S
      obtain ⟨b, off, cap, rfl, _, _, hb, hc⟩ := h
      clear hc
      go_enter Try.func32, Try.ntmps32
      go_wp2_with fail
      refine (areStampsInRoom_any _ _ _ _ HS.out hl).mono ?_
      rw [hr]
      rintro e w0 ⟨rfl, rfl⟩
      go_wp2_with fail
      refine (isStampValue_any _ _).mono ?_
      rw [hv]
      rintro e w0' ⟨rfl, rfl⟩
      go_wp2_with fail
      refine WI.out.mono ?_
      rintro e w1 ⟨x, rfl, o1, b1⟩
      obtain ⟨p, c, rfl⟩ := o1.shape
      go_wp2_with fail
      go_ret2
      exact ⟨ret_ib R.out G.out.symm, b1⟩
    · have hv : vlB a2 = false := by simpa using hv
      have G := Lib.hid (csB_out (st := st) (r := a1) hv)
      go_enter Try.func32, Try.ntmps32
      go_wp2_with fail
      refine (areStampsInRoom_any _ _ _ _ HS.out hl).mono ?_
      rw [hr]
      rintro e w0 ⟨rfl, rfl⟩
      go_wp2_with fail
      refine (isStampValue_any _ _).mono ?_
      rw [hv]
      rintro e w0' ⟨rfl, rfl⟩
      go_wp2_with fail
      go_ret2
      exact ⟨ret_ib (by simp [cwR, G.out]) G.out.symm, Below.refl _ _⟩
  · have hr : rmB st a1 = false := by simpa using hr
    have G := Lib.hid (csB_no (v := a2) hr)
    go_enter Try.func32, Try.ntmps32
    go_wp2_with fail
    refine (areStampsInRoom_any _ _ _ _ HS.out hl).mono ?_
    rw [hr]
    rintro e w0 ⟨rfl, rfl⟩
    go_wp2_with fail
    go_ret2
    exact ⟨ret_ib (by simp [cwR, G.out]) G.out.symm, Below.refl _ _⟩

set_option maxHeartbeats 4000000 in
set_option maxRecDepth 20000 in
theorem implFirstStamps_any (v : Value) (st : List Int) (a1 a2 : Int) (w : World) (h : Sp w v st) (hl : st.length ≤ 1099511627776) :
    Calls Try.prog 28 #[v, .int .i64 a1, .int .i64 a2] w fun e w' => ∃ u, e = .returned (.tuple #[u, .bool (ftB st a1 a2)]) ∧ Ow w' w.heap.size u (ftR st a1 a2) ∧ Below w.heap.size w w' := by
  have HS := Lib.hid h.sv
  by_cases hr : rmB st a1 = true
  · by_cases hv : vlB a2 = true
    · have G := Lib.hid (csB_yes hr hv)
      obtain ⟨S, r, rfl, r1, r8⟩ := rmB_yes hr
      obtain ⟨u, rfl, hu⟩ := vlB_yes hv
      have h6 := S.six
      have WI := Lib.hid (waysI_any st h6 S.mem v r u w h r8 (by omega) (by omega))
      have m1 : ∀ x ∈ st, (1 : Int) ≤ x := fun x hx => (S.mem x hx).1
      have WF := ways_iff m1 r8 u
      have WL := wl_len st r u
      have WH := wl_head st (fun x hx => by have := m1 x hx; omega) r u
      have GG : Hid (csB st r u = true) := G
      obtain ⟨L, eL⟩ : ∃ L, wl st r u = L := ⟨_, rfl⟩
      rw [eL] at WI WL WH
      obtain ⟨b, off, cap, rfl, _, _, hb, hc⟩ := h
      by_cases h0 : L.length = 0
      · have G2 : Hid (false = ftB st r u) := Lib.hid (by
          have : ¬ fw st u ≤ (r : Int) := fun hf => by have := WF.2 hf; omega
          simp [ftB, this])
        have Q : Hid (ftR st r u = []) := Lib.hid (by unfold ftR; rw [← G2.out]; rfl)
        have hL : L = [] := List.length_eq_zero_iff.1 h0
        subst hL
        clear S WF WH WL hc m1 h0 eL
        go_enter Try.func28, Try.ntmps28
        go_wp2_with fail
        refine (areStampsInRoom_any _ _ _ _ HS.out hl).mono ?_
        rw [hr]
        rintro e w0 ⟨rfl, rfl⟩
        go_wp2_with fail
        refine (isStampValue_any _ _).mono ?_
        rw [hv]
        rintro e w0' ⟨rfl, rfl⟩
        go_wp2_with fail
        refine WI.out.mono ?_
        rintro e w1 ⟨x, rfl, o1, b1⟩
        obtain ⟨p, c, rfl⟩ := o1.shape
        clear o1
        go_wp2_with fail
        go_ret2
        exact ⟨_, ret_lb rfl G2.out, by rw [Q.out]; exact World.ownsRow_nil _ _ _ _, b1⟩
      · have hf := WF.1 (by omega)
        have G2 : Hid (true = ftB st r u) := Lib.hid (by simp [ftB, GG.out, hf])
        have Q : Hid (ftR st r u = L.getD 0 []) := Lib.hid (by
          unfold ftR
          rw [← G2.out, if_pos rfl, Int.toNat_natCast, List.getD_eq_getElem?_getD, WH (by omega)]
          rfl)
        have d0 : ((L.length : Int) == 0) = false := by simpa using h0
        have d1 : 0 < L.length := by omega
        have H0 := Lib.hid h0
        clear S WF WH WL hc m1 eL h0
        go_enter Try.func28, Try.ntmps28
        go_wp2_with fail
        refine (areStampsInRoom_any _ _ _ _ HS.out hl).mono ?_
        rw [hr]
        rintro e w0 ⟨rfl, rfl⟩
        go_wp2_with fail
        refine (isStampValue_any _ _).mono ?_
        rw [hv]
        rintro e w0' ⟨rfl, rfl⟩
        go_wp2_with fail
        refine WI.out.mono ?_
        rintro e w1 ⟨x, rfl, o1, b1⟩
        rcases o1.form with ⟨_, e⟩ | ⟨g, c, rfl, hg, hlt, hj⟩
        · exact absurd (by rw [e]; rfl) H0.out
        · obtain ⟨y, hy, oy⟩ := hj 0 d1
          clear hj o1
          go_wp2
          go_ret2
          exact ⟨_, ret_lb rfl G2.out, by rw [Q.out]; exact oy.1, b1⟩
    · have hv : vlB a2 = false := by simpa using hv
      have G := Lib.hid (show false = ftB st a1 a2 by simp [ftB, csB_out (st := st) (r := a1) hv])
      have Q : Hid (ftR st a1 a2 = []) := Lib.hid (by unfold ftR; rw [← G.out]; rfl)
      go_enter Try.func28, Try.ntmps28
      go_wp2_with fail
      refine (areStampsInRoom_any _ _ _ _ HS.out hl).mono ?_
      rw [hr]
      rintro e w0 ⟨rfl, rfl⟩
      go_wp2_with fail
      refine (isStampValue_any _ _).mono ?_
      rw [hv]
      rintro e w0' ⟨rfl, rfl⟩
      go_wp2_with fail
      go_ret2
      exact ⟨_, ret_lb rfl G.out, by rw [Q.out]; exact World.ownsRow_nil _ _ _ _, Below.refl _ _⟩
  · have hr : rmB st a1 = false := by simpa using hr
    have G := Lib.hid (show false = ftB st a1 a2 by simp [ftB, csB_no (v := a2) hr])
    have Q : Hid (ftR st a1 a2 = []) := Lib.hid (by unfold ftR; rw [← G.out]; rfl)
    go_enter Try.func28, Try.ntmps28
    go_wp2_with fail
    refine (areStampsInRoom_any _ _ _ _ HS.out hl).mono ?_
    rw [hr]
    rintro e w0 ⟨rfl, rfl⟩
    go_wp2_with fail
    go_ret2
    exact ⟨_, ret_lb rfl G.out, by rw [Q.out]; exact World.ownsRow_nil _ _ _ _, Below.refl _ _⟩
end Go.Proofs.Ytmllokooceghiaa
