/-
  CanStamp, ReachOf, FewestStamps and RoomFor in the program, by their contracts. Condition: slices of at most 2^40 numbers.
-/
import Derived.Test.YtmllokooceghiaaTrc
namespace Go.Proofs.Ytmllokooceghiaa
open Go.RowKit

set_option maxHeartbeats 4000000 in
set_option maxRecDepth 20000 in
theorem implCanStamp_any (v : Value) (st : List Int) (a1 a2 : Int) (w : World) (h : Sp w v st) (hl : st.length ≤ 1099511627776) :
    Calls Try.prog 22 #[v, .int .i64 a1, .int .i64 a2] w fun e w' => e = .returned (.tuple #[.bool (csR st a1 a2), .bool (csB st a1 a2)]) ∧ Below w.heap.size w w' := by
  have HS := Lib.hid h.sv
  by_cases hr : rmB st a1 = true
  · by_cases hv : vlB a2 = true
    · obtain ⟨S, r, rfl, r1, r8⟩ := rmB_yes hr
      obtain ⟨u, rfl, hu⟩ := vlB_yes hv
      have G := Lib.hid (csB_yes hr hv)
      have R : Hid (decide (fw st u ≤ (r : Int)) = csR st r u) := Lib.hid (by simp [csR, csB, hr, hv])
      have m1 : ∀ x ∈ st, (1 : Int) ≤ x := fun x hx => (S.mem x hx).1
      have h6 := S.six
      obtain ⟨b, off, cap, rfl, _, _, hb, hc⟩ := h
      have SV := Lib.hid (stampValueOf_any b off cap u st w m1 (by omega) hb hc hu)
      have MM := Lib.hid (made_most m1 u r r8)
      clear hc m1 S
      go_enter Try.func22, Try.ntmps22
      go_wp2_with fail
      refine (areStampsInRoom_any _ _ _ _ HS.out hl).mono ?_
      rw [hr]
      rintro e w0 ⟨rfl, rfl⟩
      go_wp2_with fail
      refine (isStampValue_any _ _).mono ?_
      rw [hv]
      rintro e w0' ⟨rfl, rfl⟩
      go_wp2_with fail
      refine SV.out.mono ?_
      rintro e w1 ⟨rfl, b1⟩
      go_wp2_with fail
      refine (MM.out _).mono ?_
      rintro e w2 ⟨rfl, b2⟩
      go_wp2_with fail
      go_ret2
      exact ⟨ret_bb R.out G.out.symm, nxt b1 b2⟩
    · have hv : vlB a2 = false := by simpa using hv
      have G := Lib.hid (csB_out (st := st) (r := a1) hv)
      go_enter Try.func22, Try.ntmps22
      go_wp2_with fail
      refine (areStampsInRoom_any _ _ _ _ HS.out hl).mono ?_
      rw [hr]
      rintro e w0 ⟨rfl, rfl⟩
      go_wp2_with fail
      refine (isStampValue_any _ _).mono ?_
      rw [hv]
      rintro e w0' ⟨rfl, rfl⟩
      go_wp2_with fail
      go_ret2
      exact ⟨ret_bb (by simp [csR, G.out]) G.out.symm, Below.refl _ _⟩
  · have hr : rmB st a1 = false := by simpa using hr
    have G := Lib.hid (csB_no (v := a2) hr)
    go_enter Try.func22, Try.ntmps22
    go_wp2_with fail
    refine (areStampsInRoom_any _ _ _ _ HS.out hl).mono ?_
    rw [hr]
    rintro e w0 ⟨rfl, rfl⟩
    go_wp2_with fail
    go_ret2
    exact ⟨ret_bb (by simp [csR, G.out]) G.out.symm, Below.refl _ _⟩

set_option maxHeartbeats 4000000 in
set_option maxRecDepth 20000 in
theorem implReachOf_any (v : Value) (st : List Int) (a1 : Int) (w : World) (h : Sp w v st) (hl : st.length ≤ 1099511627776) :
    Calls Try.prog 24 #[v, .int .i64 a1] w fun e w' => e = .returned (.tuple #[.int .i64 (roR st a1), .bool (rmB st a1)]) ∧ Below w.heap.size w w' := by
  have HS := Lib.hid h.sv
  by_cases hr : rmB st a1 = true
  · obtain ⟨S, r, rfl, r1, r8⟩ := rmB_yes hr
    have R : Hid (((rch st r : Nat) : Int) = roR st r) := Lib.hid (by simp [roR, hr])
    obtain ⟨b, off, cap, rfl, _, _, hb, hc⟩ := h
    have RO := Lib.hid (reachOf_any b off cap r st w (.inr S) hb hc r8)
    rw [hr]
    clear hc S
    go_enter Try.func24, Try.ntmps24
    go_wp2_with fail
    refine (areStampsInRoom_any _ _ _ _ HS.out hl).mono ?_
    rw [hr]
    rintro e w0 ⟨rfl, rfl⟩
    go_wp2_with fail
    refine RO.out.mono ?_
    rintro e w1 ⟨rfl, b1⟩
    go_wp2_with fail
    go_ret2
    exact ⟨ret_ib R.out rfl, b1⟩
  · have hr : rmB st a1 = false := by simpa using hr
    have Q : Hid (roR st a1 = 0) := Lib.hid (by simp [roR, hr])
    rw [hr]
    go_enter Try.func24, Try.ntmps24
    go_wp2_with fail
    refine (areStampsInRoom_any _ _ _ _ HS.out hl).mono ?_
    rw [hr]
    rintro e w0 ⟨rfl, rfl⟩
    go_wp2_with fail
    go_ret2
    exact ⟨ret_ib Q.out.symm rfl, Below.refl _ _⟩

set_option maxHeartbeats 4000000 in
set_option maxRecDepth 20000 in
theorem implFewestStamps_any (v : Value) (st : List Int) (a1 : Int) (w : World) (h : Sp w v st) (hl : st.length ≤ 1099511627776) :
    Calls Try.prog 26 #[v, .int .i64 a1] w fun e w' => e = .returned (.tuple #[.int .i64 (fsR st a1), .bool (fsB st a1)]) ∧ Below w.heap.size w w' := by
  have HS := Lib.hid h.sv
  by_cases hg : stmB st = true
  · by_cases hv : vlB a1 = true
    · have S := stmB_iff.1 hg
      obtain ⟨u, rfl, hu⟩ := vlB_yes hv
      have m1 : ∀ x ∈ st, (1 : Int) ≤ x := fun x hx => (S.mem x hx).1
      have h6 := S.six
      have fb := fw_bd m1 u
      obtain ⟨b, off, cap, rfl, _, _, hb, hc⟩ := h
      have SV := stampValueOf_any b off cap u st w m1 (by omega) hb hc hu
      by_cases hf : fw st u < stNone
      · have G : Hid (true = fsB st u) := Lib.hid (by unfold fsB; rw [hg, hv]; simp; omega)
        have R : Hid (pf st u = fsR st u) := Lib.hid (by unfold fsR; rw [← G.out, (pf_some m1 hf).1]; rfl)
        have pp := (pf_some m1 hf).2
        obtain ⟨x, ex⟩ : ∃ x, pf st u = x := ⟨_, rfl⟩
        obtain ⟨c, ec⟩ : ∃ c, pc st u = c := ⟨_, rfl⟩
        rw [ex, ec] at SV
        rw [ex] at R
        rw [ex, ec] at pp
        simp only [sv2] at SV
        have SV := Lib.hid SV
        clear hc m1 S ex ec fb hf
        by_cases hx : x = 0
        · subst hx
          have d2 : ((c : Int) == 0) = false := by have := pp rfl; simp; omega
          clear pp
          go_enter Try.func26, Try.ntmps26
          go_wp2_with fail
          refine (areStamps_any _ _ _ HS.out hl).mono ?_
          rw [hg]
          rintro e w0 ⟨rfl, rfl⟩
          go_wp2_with fail
          refine (isStampValue_any _ _).mono ?_
          rw [hv]
          rintro e w0' ⟨rfl, rfl⟩
          go_wp2_with fail
          refine SV.out.mono ?_
          rintro e w1 ⟨rfl, b1⟩
          have b1 := b1.alloc b1.size (.cells #[.int .i64 0, .int .u64 (c : Int)] 44)
          go_wp2
          go_region
          all_goals
            go_wp2
            go_ret2
            exact ⟨ret_ib R.out G.out, b1.drew⟩
        · have d1 : (x == 0) = false := by simpa using hx
          clear pp
          go_enter Try.func26, Try.ntmps26
          go_wp2_with fail
          refine (areStamps_any _ _ _ HS.out hl).mono ?_
          rw [hg]
          rintro e w0 ⟨rfl, rfl⟩
          go_wp2_with fail
          refine (isStampValue_any _ _).mono ?_
          rw [hv]
          rintro e w0' ⟨rfl, rfl⟩
          go_wp2_with fail
          refine SV.out.mono ?_
          rintro e w1 ⟨rfl, b1⟩
          have b1 := b1.alloc b1.size (.cells #[.int .i64 x, .int .u64 (c : Int)] 44)
          go_wp2
          go_region
          all_goals
            go_wp2
            go_ret2
            exact ⟨ret_ib R.out G.out, b1.drew⟩
      · have he : fw st u = stNone := by omega
        have G : Hid (false = fsB st u) := Lib.hid (by unfold fsB; rw [hg, hv]; simp [he])
        have R : Hid (0 = fsR st u) := Lib.hid (by unfold fsR; rw [← G.out]; rfl)
        rw [(pf_none m1 hf).1, (pf_none m1 hf).2] at SV
        simp only [sv2] at SV
        have SV := Lib.hid SV
        clear hc m1 S fb hf he
        go_enter Try.func26, Try.ntmps26
        go_wp2_with fail
        refine (areStamps_any _ _ _ HS.out hl).mono ?_
        rw [hg]
        rintro e w0 ⟨rfl, rfl⟩
        go_wp2_with fail
        refine (isStampValue_any _ _).mono ?_
        rw [hv]
        rintro e w0' ⟨rfl, rfl⟩
        go_wp2_with fail
        refine SV.out.mono ?_
        rintro e w1 ⟨rfl, b1⟩
        have b1 := b1.alloc b1.size (.cells #[.int .i64 0, .int .u64 0] 44)
        go_wp2
        go_region
        all_goals
          go_wp2
          go_ret2
          exact ⟨ret_ib R.out G.out, b1.drew⟩
    · have hv : vlB a1 = false := by simpa using hv
      have G := Lib.hid (show false = fsB st a1 by simp [fsB, hv])
      go_enter Try.func26, Try.ntmps26
      go_wp2_with fail
      refine (areStamps_any _ _ _ HS.out hl).mono ?_
      rw [hg]
      rintro e w0 ⟨rfl, rfl⟩
      go_wp2_with fail
      refine (isStampValue_any _ _).mono ?_
      rw [hv]
      rintro e w0' ⟨rfl, rfl⟩
      go_wp2_with fail
      go_ret2
      exact ⟨ret_ib (by simp [fsR, ← G.out]) G.out, Below.refl _ _⟩
  · have hg : stmB st = false := by simpa using hg
    have G := Lib.hid (show false = fsB st a1 by simp [fsB, hg])
    go_enter Try.func26, Try.ntmps26
    go_wp2_with fail
    refine (areStamps_any _ _ _ HS.out hl).mono ?_
    rw [hg]
    rintro e w0 ⟨rfl, rfl⟩
    go_wp2_with fail
    go_ret2
    exact ⟨ret_ib (by simp [fsR, ← G.out]) G.out, Below.refl _ _⟩

set_option maxHeartbeats 4000000 in
set_option maxRecDepth 20000 in
theorem implRoomFor_any (v : Value) (st : List Int) (a1 : Int) (w : World) (h : Sp w v st) (hl : st.length ≤ 1099511627776) :
    Calls Try.prog 48 #[v, .int .i64 a1] w fun e w' => e = .returned (.tuple #[.int .i64 (rfR st a1), .bool (rfB st a1)]) ∧ Below w.heap.size w w' := by
  have HS := Lib.hid h.sv
  by_cases hg : stmB st = true
  · by_cases hv : vlB a1 = true
    · have S := stmB_iff.1 hg
      have R : Hid (rfB st a1 = !(rfT st a1 == 0)) := Lib.hid (by simp [rfB, hg, hv])
      have Q : Hid (rfR st a1 = if rfB st a1 = true then rfT st a1 else 0) := Lib.hid rfl
      obtain ⟨b, off, cap, rfl, _, _, hb, hc⟩ := h
      have RO : ∀ (k : Nat) (W : World), k ≤ 8 → Below w.heap.size w W → Hid (Calls Try.prog 58 #[.slice (some ⟨b, off, none⟩) st.length cap, .int .i64 (k : Int)] W fun e w' => e = .returned (.int .i64 (rch st k : Nat)) ∧ Below W.heap.size W w') := fun k W hk hB =>
        Lib.hid (reachOf_any b off cap k st W (.inr S) (Nat.lt_of_lt_of_le hb hB.size) (fun j hj => (hB.cell (p := ⟨b, off + j, none⟩) hb).trans (hc j hj)) hk)
      clear hc S
      go_enter Try.func48, Try.ntmps48
      go_wp2_with fail
      refine (areStamps_any _ _ _ HS.out hl).mono ?_
      rw [hg]
      rintro e w0 ⟨rfl, rfl⟩
      go_wp2_with fail
      refine (isStampValue_any _ _).mono ?_
      rw [hv]
      rintro e w0' ⟨rfl, rfl⟩
      go_wp2
      go_loopw [6] (fun i wr => ∃ k : Nat, 1 ≤ k ∧ k ≤ 9 ∧ i = .int .i64 k ∧ Hid (rfF st (9 - k) k a1 = rfT st a1) ∧ Below w.heap.size w wr) (fun i _ => 9 - (intOf i).toNat)
      case atStart => exact ⟨1, by omega, by omega, rfl, Lib.hid rfl, Below.refl _ _⟩
      case round =>
        obtain ⟨k, hk1, hk9, rfl, HK, hb2⟩ := hrel
        by_cases hlt : k ≤ 8
        · obtain ⟨f, hf⟩ : ∃ f, 9 - k = f + 1 := ⟨8 - k, by omega⟩
          rw [hf] at HK
          have hf2 : 9 - (k + 1) = f := by omega
          have RK := RO k wr hlt hb2
          by_cases hvr : a1 ≤ (rch st k : Int)
          · have E := HK.out
            rw [rfF_pos _ _ _ _ hvr] at E
            have R2 := Lib.hid (show rfB st a1 = true by rw [R.out, ← E]; simp; omega)
            have Q2 := Lib.hid (show rfR st a1 = k by rw [Q.out, R2.out, ← E]; rfl)
            clear E HK hf hf2 RO
            go_wp2_with fail
            refine RK.out.mono ?_
            rintro e w2 ⟨rfl, b2⟩
            go_wp2_with fail
            go_ret2
            exact ⟨ret_ib Q2.out.symm R2.out.symm, nxt hb2 b2⟩
          · have E := HK.out
            rw [rfF_next _ _ _ _ hvr] at E
            have HE := Lib.hid E
            clear E HK RO
            go_wp2_with fail
            refine RK.out.mono ?_
            rintro e w2 ⟨rfl, b2⟩
            go_wp2_with fail
            go_roundw
            case rel => exact ⟨k + 1, by omega, by omega, by go_num, Lib.hid (by rw [hf2]; exact HE.out), nxt hb2 b2⟩
            case measure => simp [intOf]; omega
        · have hk : k = 9 := by omega
          subst hk
          have E : rfT st a1 = 0 := HK.out.symm
          have R2 := Lib.hid (show rfB st a1 = false by rw [R.out, E]; rfl)
          have Q2 := Lib.hid (show rfR st a1 = 0 by rw [Q.out, R2.out]; rfl)
          clear E HK RO
          go_wp2
          go_ret2
          exact ⟨ret_ib Q2.out.symm R2.out.symm, hb2⟩
    · have hv : vlB a1 = false := by simpa using hv
      have G := Lib.hid (show false = rfB st a1 by simp [rfB, hv])
      go_enter Try.func48, Try.ntmps48
      go_wp2_with fail
      refine (areStamps_any _ _ _ HS.out hl).mono ?_
      rw [hg]
      rintro e w0 ⟨rfl, rfl⟩
      go_wp2_with fail
      refine (isStampValue_any _ _).mono ?_
      rw [hv]
      rintro e w0' ⟨rfl, rfl⟩
      go_wp2_with fail
      go_ret2
      exact ⟨ret_ib (by simp [rfR, ← G.out]) G.out, Below.refl _ _⟩
  · have hg : stmB st = false := by simpa using hg
    have G := Lib.hid (show false = rfB st a1 by simp [rfB, hg])
    go_enter Try.func48, Try.ntmps48
    go_wp2_with fail
    refine (areStamps_any _ _ _ HS.out hl).mono ?_
    rw [hg]
    rintro e w0 ⟨rfl, rfl⟩
    go_wp2_with fail
    go_ret2
    exact ⟨ret_ib (by simp [rfR, ← G.out]) G.out, Below.refl _ _⟩
end Go.Proofs.Ytmllokooceghiaa
