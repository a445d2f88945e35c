/-
  WaysToMeasure, RunOfRuler and MirrorRuler in the model, by their contracts. Condition: slices of at most 2^40 numbers.
-/
import Derived.Test.YtaihgdecoaajoaaRsp
namespace Go.Proofs.Ytaihgdecoaajoaa
open Go.RowKit

noncomputable def rrR (ms : List Int) : Int := if rulB ms = true then rnG ms ((lastM ms).toNat + 1) 0 0 else 0

set_option maxHeartbeats 4000000 in
set_option maxRecDepth 20000 in
theorem specRunOfRuler_any (v : Value) (ms : List Int) (w : World) (h : Sp w v ms) (hl : ms.length ≤ 1099511627776) :
    Calls Try.prog 44 #[v] w fun e w' => e = .returned (.tuple #[.int .i64 (rrR ms), .bool (rulB ms)]) ∧ Below w.heap.size w w' := by
  have HS := Lib.hid h.sv
  by_cases hg : rulB ms = true
  · have S := rulB_iff.1 hg
    have HT := Lib.hid S
    have HP := Lib.hid h
    have RG := Lib.hid (ruGood_any v ms w HS.out hl)
    rw [hg] at RG
    have hlb := S.last_bd
    have Q : Hid (rrR ms = rnG ms ((lastM ms).toNat + 1) 0 0) := Lib.hid (by simp [rrR, hg])
    have RT := fun W hW => Lib.hid (ruTimes_any v ms W hW S)
    obtain ⟨M, eM⟩ : ∃ M : Nat, (lastM ms).toNat = M := ⟨_, rfl⟩
    rw [eM] at RT Q
    have hM : M ≤ 60 := by omega
    have hfl := tmT_len ms (M + 1)
    have TB := Lib.hid (fun n => tm_bd (ms := ms) hlb.2.2 n)
    rw [hg]
    obtain ⟨R, eR⟩ : ∃ R, rrR ms = R := ⟨_, rfl⟩
    rw [eR] at Q ⊢
    clear S h eM hlb eR
    go_enter Try.func44, Try.ntmps44
    go_wp2_with fail
    refine RG.out.mono ?_
    rintro e w1 ⟨rfl, b1⟩
    clear RG
    go_wp2_with fail
    refine (RT _ (HP.out.below b1 (Nat.le_refl _))).out.mono ?_
    rintro e w2 ⟨u, rfl, o, a, b2⟩
    obtain ⟨cc, rfl, hlt, hct⟩ := rowOfOw o a
    rw [hfl] at hct ⊢
    have b2 := nxt b1 b2
    clear o a RT
    go_wp2
    go_loopw [4, 13] (fun y i wr => ∃ (k : Nat) (r : Int), k ≤ M + 1 ∧ i = .int .i64 k ∧ y = .int .i64 r ∧ Hid (rnG ms (M + 1 - k) k r = R) ∧ wr = w2) (fun _ i _ => M + 1 - (intOf i).toNat)
    case atStart => exact ⟨0, 0, Nat.zero_le _, rfl, rfl, Lib.hid Q.out.symm, rfl⟩
    case round =>
      obtain ⟨k, r, hk, rfl, rfl, HK, rfl⟩ := hrel
      by_cases hlt2 : k < M + 1
      · have hcell1 := hct k hlt2
        rw [tmT_at ms (M + 1) k hlt2] at hcell1
        have htb := TB.out k
        obtain ⟨f, hf⟩ : ∃ f, M + 1 - k = f + 1 := ⟨M - k, by omega⟩
        have hf2 : M + 1 - (k + 1) = f := by omega
        have E := HK.out
        rw [hf, rnG] at E
        obtain ⟨x, ex⟩ : ∃ x, tm ms k = x := ⟨_, rfl⟩
        rw [ex] at hcell1 htb E
        clear hct ex HK
        by_cases h0 : k = 0
        · rw [if_neg (by omega)] at E
          have HE := Lib.hid E
          clear E
          subst h0
          go_wp2
          go_roundw
          case rel => exact ⟨0 + 1, (0 : Nat), by omega, by go_num, rfl, Lib.hid (by rw [hf2]; exact HE.out), trivial⟩
          case measure => simp only [intOf]; omega
        · have k0 : (0 : Int) < k := by omega
          by_cases hx0 : x = 0
          · rw [if_pos ⟨by omega, hx0⟩] at E
            subst E
            subst hx0
            go_wp2
            go_ret2
            exact ⟨rfl, b2⟩
          · rw [if_neg (by omega)] at E
            have HE := Lib.hid E
            have dx : (x == 0) = false := by simpa using hx0
            clear E
            go_wp2
            go_roundw
            case rel => exact ⟨k + 1, k, by omega, by go_num, rfl, Lib.hid (by rw [hf2]; exact HE.out), trivial⟩
            case measure => simp only [intOf]; omega
      · have hke : k = M + 1 := by omega
        have E := HK.out
        rw [hke, Nat.sub_self, rnG] at E
        subst hke
        subst E
        clear hct HK
        go_wp2
        go_ret2
        exact ⟨rfl, b2⟩
  · have hg : rulB ms = false := by simpa using hg
    have Q := Lib.hid (show rrR ms = 0 by simp [rrR, hg])
    rw [hg]
    have RG := Lib.hid (ruGood_any v ms w HS.out hl)
    rw [hg] at RG
    clear h
    go_enter Try.func44, Try.ntmps44
    go_wp2_with fail
    refine RG.out.mono ?_
    rintro e w1 ⟨rfl, b1⟩
    go_wp2_with fail
    go_ret2
    exact ⟨ret_ib Q.out.symm rfl, b1⟩

noncomputable def wmB (ms : List Int) (a : Int) : Bool := rulB ms && inB a 1 60
noncomputable def wmR (ms : List Int) (a : Int) : Int := if wmB ms a = true ∧ a < lastM ms + 1 then tm ms a else 0

set_option maxHeartbeats 4000000 in
set_option maxRecDepth 20000 in
theorem specWaysToMeasure_any (v : Value) (ms : List Int) (a1 : Int) (w : World) (h : Sp w v ms) (hl : ms.length ≤ 1099511627776) :
    Calls Try.prog 28 #[v, .int .i64 a1] w fun e w' => e = .returned (.tuple #[.int .i64 (wmR ms a1), .bool (wmB ms a1)]) ∧ Below w.heap.size w w' := by
  have HS := Lib.hid h.sv
  by_cases hg : rulB ms = true
  · have S := rulB_iff.1 hg
    have HT := Lib.hid S
    have HP := Lib.hid h
    have RG := Lib.hid (ruGood_any v ms w HS.out hl)
    rw [hg] at RG
    by_cases hi : inB a1 1 60 = true
    · have hlb := S.last_bd
      have hib := inB_iff.1 hi
      have R := Lib.hid (show wmB ms a1 = true by simp [wmB, hg, hi])
      obtain ⟨a, rfl⟩ : ∃ a : Nat, a1 = a := ⟨a1.toNat, by omega⟩
      have RT := fun W hW => Lib.hid (ruTimes_any v ms W hW S)
      obtain ⟨M, eM⟩ : ∃ M : Nat, (lastM ms).toNat = M := ⟨_, rfl⟩
      have HM := Lib.hid (show lastM ms = M by omega)
      rw [eM] at RT
      have hM : M ≤ 60 := by omega
      have hfl := tmT_len ms (M + 1)
      clear S h eM hlb
      go_enter Try.func28, Try.ntmps28
      go_wp2_with fail
      refine RG.out.mono ?_
      rintro e w1 ⟨rfl, b1⟩
      clear RG
      go_wp2_with fail
      refine (l1In_any _ _ _ _).mono ?_
      rw [hi]
      rintro e w1' ⟨rfl, rfl⟩
      go_wp2_with fail
      refine (RT _ (HP.out.below b1 (Nat.le_refl _))).out.mono ?_
      rintro e w2 ⟨u, rfl, o, a', b2⟩
      obtain ⟨cc, rfl, hlt, hct⟩ := rowOfOw o a'
      rw [hfl] at hct ⊢
      have b2 := nxt b1 b2
      clear o a' RT
      by_cases hal : a < M + 1
      · have hcell1 := hct a hal
        rw [tmT_at ms (M + 1) a hal] at hcell1
        have Q := Lib.hid (show wmR ms a = tm ms a by unfold wmR; rw [if_pos ⟨R.out, by rw [HM.out]; omega⟩])
        have i1 : (a : Int) < (M : Int) + 1 := by omega
        have dl : decide ((M : Int) + 1 ≤ (a : Int)) = false := by simp; omega
        obtain ⟨x, ex⟩ : ∃ x, tm ms a = x := ⟨_, rfl⟩
        rw [ex] at hcell1 Q
        clear hct ex
        go_wp2
        go_ret2
        exact ⟨ret_ib Q.out.symm R.out.symm, b2⟩
      · have Q := Lib.hid (show wmR ms a = 0 by unfold wmR; rw [if_neg (fun h => by have h2 := h.2; rw [HM.out] at h2; omega)])
        have dl : decide ((M : Int) + 1 ≤ (a : Int)) = true := by simp; omega
        clear hct
        go_wp2
        go_ret2
        exact ⟨ret_ib Q.out.symm R.out.symm, b2⟩
    · have hi : inB a1 1 60 = false := by simpa using hi
      have R := Lib.hid (show wmB ms a1 = false by simp [wmB, hi])
      have Q := Lib.hid (show wmR ms a1 = 0 by simp [wmR, R.out])
      clear S h
      go_enter Try.func28, Try.ntmps28
      go_wp2_with fail
      refine RG.out.mono ?_
      rintro e w1 ⟨rfl, b1⟩
      clear RG
      go_wp2_with fail
      refine (l1In_any _ _ _ _).mono ?_
      rw [hi]
      rintro e w1' ⟨rfl, rfl⟩
      go_wp2_with fail
      go_ret2
      exact ⟨ret_ib Q.out.symm R.out.symm, b1⟩
  · have hg : rulB ms = false := by simpa using hg
    have R := Lib.hid (show wmB ms a1 = false by simp [wmB, hg])
    have Q := Lib.hid (show wmR ms a1 = 0 by simp [wmR, R.out])
    have RG := Lib.hid (ruGood_any v ms w HS.out hl)
    rw [hg] at RG
    clear h
    go_enter Try.func28, Try.ntmps28
    go_wp2_with fail
    refine RG.out.mono ?_
    rintro e w1 ⟨rfl, b1⟩
    go_wp2_with fail
    go_ret2
    exact ⟨ret_ib Q.out.symm R.out.symm, b1⟩

end Go.Proofs.Ytaihgdecoaajoaa
