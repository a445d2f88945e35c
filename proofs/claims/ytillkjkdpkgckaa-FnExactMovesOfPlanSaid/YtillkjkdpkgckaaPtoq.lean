/-
  MovesOfPlan in the model and in the program, by their contracts: the same answers. Condition: slices of at most 2^20 numbers in all.
-/
import Derived.Test.YtillkjkdpkgckaaPtop
namespace Go.Proofs.Ytillkjkdpkgckaa
open Go.RowKit

noncomputable def moR (xs : List Int) (pl : List (List Int)) : Int := if okP xs pl = true then mvTo pl pl.length else 0
theorem moR_yes {xs : List Int} {pl : List (List Int)} (h : okP xs pl = true) : moR xs pl = mvTo pl pl.length := by simp [moR, h]
theorem moR_no {xs : List Int} {pl : List (List Int)} (h : okP xs pl = false) : moR xs pl = 0 := by simp [moR, h]

set_option maxHeartbeats 2000000 in
set_option maxRecDepth 20000 in
theorem implMovesOfPlan_any (v u : Value) (xs : List Int) (pl : List (List Int)) (w : World) (hv : Sv w v xs) (hu : Svv w u pl) (hl : xs.length ≤ 1099511627776) (hf : Few2 pl) :
    Calls Try.prog 37 #[v, u] w fun e w' => e = .returned (.tuple #[.int .i64 (moR xs pl), .bool (okP xs pl)]) ∧ Below w.heap.size w w' := by
  have HV := Lib.hid hv
  have HU := Lib.hid hu
  have HF := Lib.hid hf
  clear hv hu hf
  by_cases hd : okP xs pl = true
  · have hq := okP_iff hd
    have R := Lib.hid (moR_yes hd)
    have HDY := Lib.hid hd
    have h8 := (fewB_iff hq.1).2
    have HP := Lib.hid (planB_iff.1 hq.2)
    clear hd
    go_enter Try.func37, Try.ntmps37
    go_wp2_with fail
    refine (changesOf_yes _ _ _ _ _ HV.out HU.out HF.out hq.1 hq.2).mono ?_
    rintro e w1 ⟨c, rfl, o1, b1⟩
    clear hq
    go_wp2_with fail
    refine (movesOf_any _ _ _ _ _ o1 HP.out h8).mono ?_
    rintro e w2 ⟨rfl, b2⟩
    go_wp2_with fail
    go_ret2
    exact ⟨ret_ib R.out.symm HDY.out.symm, nxt b1 b2⟩
  · have hd : okP xs pl = false := by simpa using hd
    have R := Lib.hid (moR_no hd)
    have HDY := Lib.hid hd
    have CO := Lib.hid (changesOf_no _ _ _ _ w HV.out HU.out hl HF.out hd)
    clear hd
    go_enter Try.func37, Try.ntmps37
    go_wp2_with fail
    refine CO.out.mono ?_
    rintro e w1 ⟨rfl, b1⟩
    go_wp2_with fail
    go_ret2
    exact ⟨ret_ib R.out.symm HDY.out.symm, b1⟩

set_option maxHeartbeats 4000000 in
set_option maxRecDepth 20000 in
theorem specMovesOfPlan_any (v u : Value) (xs : List Int) (pl : List (List Int)) (w : World) (hv : Sv w v xs) (hu : Svv w u pl) (hl : xs.length ≤ 1099511627776) (hf : Few2 pl) :
    Calls Try.prog 36 #[v, u] w fun e w' => e = .returned (.tuple #[.int .i64 (moR xs pl), .bool (okP xs pl)]) ∧ Below w.heap.size w w' := by
  have HV := Lib.hid hv
  have HU := Lib.hid hu
  have HF := Lib.hid hf
  have hn : pl.length ≤ 1048576 := by unfold Few2 at hf; omega
  clear hv hf
  by_cases hg : fewB xs = true
  · by_cases hp : planB xs.length pl = true
    · have R := Lib.hid (moR_yes (okP_yes hg hp))
      have HDY := Lib.hid (okP_yes hg hp)
      have h8 := (fewB_iff hg).2
      have HP := Lib.hid (planB_iff.1 hp)
      have h60 := HP.out.1
      obtain ⟨p, cap, rfl, hx⟩ := hu
      go_enter Try.func36, Try.ntmps36
      go_wp2_with fail
      refine (paFew_any _ _ _ HV.out hl).mono ?_
      rintro e w1 ⟨rfl, b1⟩
      go_wp2_with fail
      refine (paPlan_any _ _ _ _ _ (HV.out.below b1 (Nat.le_refl _)) (HU.out.below b1 (Nat.le_refl _)) hl HF.out).mono ?_
      rintro e w2 ⟨rfl, b2⟩
      have b2 := nxt b1 b2
      clear b1
      go_wp2
      go_loopw [6, 19] (fun t i wr => ∃ (k : Nat) (s : Int), k ≤ pl.length ∧ i = .int .i64 k ∧ t = .int .i64 s ∧ Hid (mvTo pl k = s) ∧ Below w.heap.size w wr) (fun _ i _ => pl.length - (intOf i).toNat)
      case atStart => exact ⟨0, 0, Nat.zero_le _, rfl, rfl, Lib.hid rfl, b2⟩
      case round =>
        obtain ⟨k, s, hk, rfl, rfl, HS, hb⟩ := hrel
        have hz := hb.size
        by_cases hlt : k < pl.length
        · obtain ⟨b, off, rfl, hbl, hc⟩ := hx (by omega)
          obtain ⟨r0, hc0, hs0⟩ := hc k hlt
          have HS0 := Lib.hid hs0
          have hcell : wr.cell? ⟨b, off + k, none⟩ = some r0 := (hb.cell (p := ⟨b, off + k, none⟩) hbl).trans hc0
          have hb1 := mvTo_bd HP.out h8 k hk
          rw [HS.out] at hb1
          have hm := mvAt_bd HP.out h8 hlt
          have R1 := (HP.out.row h8 hlt).2.len
          have R2 := (HP.out.bef h8 hlt).2.len
          have M : Hid ((((onlyL (befL pl k) (rowL pl k)).length : Int) + (onlyL (rowL pl k) (befL pl k)).length) = mvAt pl k) := Lib.hid rfl
          have S : Hid (mvTo pl (k + 1) = mvTo pl k + mvAt pl k) := Lib.hid rfl
          obtain ⟨z, ez⟩ : ∃ z, mvAt pl k = z := ⟨_, rfl⟩
          rw [ez] at hm M S
          obtain ⟨hm1, hm2⟩ := hm
          obtain ⟨hb2, hb3⟩ := hb1
          have k0 : (0 : Int) ≤ k := by omega
          have k1 : (k : Int) < pl.length := by omega
          clear hc hx hc0 hs0 ez
          go_wp2
          go_region_with (first
            | (go_at_call 62; go_must (refine (paBefore_any _ _ k _ (HU.out.below (hb.trans (Below.mono (below_drewN (Below.refl _ _) _) hz)) (Nat.le_refl _)) hlt hn).mono ?_; rintro e w4 ⟨r, rfl, sr, ew⟩; subst ew; have SR := Lib.hid sr))
            | (go_at_call 65; go_must (refine (paMoves_any _ _ _ _ _ (by first | exact SR.out | exact SR.out.below (below_drewN (Below.refl _ _) _) (Nat.le_refl _)) (HS0.out.below (Below.trans (Below.mono hb (Nat.le_refl _)) (Below.mono (below_drewN (Below.refl _ _) _) hz)) (Nat.le_refl _)) R2 R1).mono ?_; rw [M.out]; rintro e w3 ⟨rfl, b3⟩)))
          all_goals
            have b4 : Below w.heap.size w w3 := Below.trans (Below.trans hb (Below.mono (below_drewN (Below.refl _ _) _) hz)) (Below.mono b3 hz)
            go_wp2
            go_roundw
            case rel => exact ⟨k + 1, s + z, by omega, by go_num, by go_num, Lib.hid (by rw [S.out, HS.out]), b4⟩
            case measure => simp only [intOf]; omega
        · clear hx
          go_wp2
          go_ret2
          have hke : k = pl.length := by omega
          subst hke
          exact ⟨ret_ib (by rw [R.out]; exact HS.out.symm) HDY.out.symm, hb⟩
    · have hp : planB xs.length pl = false := by simpa using hp
      have R := Lib.hid (moR_no (okP_plan (xs := xs) hp))
      have HDY := Lib.hid (okP_plan (xs := xs) hp)
      clear hu
      go_enter Try.func36, Try.ntmps36
      go_wp2_with fail
      refine (paFew_any _ _ _ HV.out hl).mono ?_
      rintro e w1 ⟨rfl, b1⟩
      go_wp2_with fail
      refine (paPlan_any _ _ _ _ _ (HV.out.below b1 (Nat.le_refl _)) (HU.out.below b1 (Nat.le_refl _)) hl HF.out).mono ?_
      rintro e w2 ⟨rfl, b2⟩
      go_wp2_with fail
      go_ret2
      exact ⟨ret_ib R.out.symm HDY.out.symm, nxt b1 b2⟩
  · have hg : fewB xs = false := by simpa using hg
    have R := Lib.hid (moR_no (okP_few (pl := pl) hg))
    have HDY := Lib.hid (okP_few (pl := pl) hg)
    clear hu
    go_enter Try.func36, Try.ntmps36
    go_wp2_with fail
    refine (paFew_any _ _ _ HV.out hl).mono ?_
    rintro e w1 ⟨rfl, b1⟩
    go_wp2_with fail
    go_ret2
    exact ⟨ret_ib R.out.symm HDY.out.symm, b1⟩
end Go.Proofs.Ytillkjkdpkgckaa
