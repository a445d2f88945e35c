/-
  The law on MovesOfPlan, walked: whatever comes in, it returns true and writes nothing that was there. No condition but lengths that fit int.
-/
import Derived.Test.YtillkjkdpkgckaaPtoq
namespace Go.Proofs.Ytillkjkdpkgckaa
open Go.RowKit

set_option maxHeartbeats 4000000 in
theorem lawMovesOfPlan (v u : Value) (xs : List Int) (pl : List (List Int)) (w : World) (hv : Sv w v xs) (hu : Svv w u pl) (_hm : xs.length ≤ 9223372036854775807) (hn : pl.length ≤ 9223372036854775807) (hr : ∀ j, j < pl.length → (rowL pl j).length ≤ 9223372036854775807) :
    Calls Try.prog 10 #[v, u] w fun e w' => e = .returned (.bool true) ∧ Below w.heap.size w w' := by
  have hs := hv
  obtain ⟨p, cap, rfl, hx⟩ := hv
  clear hx
  by_cases hbig : 1048576 < xs.length
  · clear hu hr hs
    go_enter Try.func10, Try.ntmps10
    go_wp2
    go_ret
    exact ⟨rfl, Below.refl _ _⟩
  · have hl : xs.length ≤ 1099511627776 := by omega
    have SZ := Lib.hid (szIntSS_any u pl w hu hn hr)
    have HS := Lib.hid hs
    have HU := Lib.hid hu
    clear hu hr hs hn
    go_enter Try.func10, Try.ntmps10
    go_wp2_with fail
    refine SZ.out.mono ?_
    rintro e w0 ⟨⟨r, rfl, hr⟩, rfl⟩
    clear SZ
    by_cases hneg : r < 0
    · clear hr
      go_wp2_with fail
      go_ret
      exact ⟨rfl, Below.refl _ _⟩
    · have hf : Few2 pl := by rcases hr with h | h; exact absurd h hneg; exact h.2
      have HF := Lib.hid hf
      clear hr hf
      go_wp2_with fail
      refine (toIntS_any _ _ _ HS.out hl).mono ?_
      rintro e w1 ⟨u1, rfl, o1, -, b1⟩
      go_wp2_with fail
      refine (toIntSS_any _ _ _ (HU.out.below b1 (Nat.le_refl _)) HF.out).mono ?_
      rintro e w2 ⟨u2, rfl, o2, b2⟩
      have o1 := o1.below b2 (Nat.le_refl _)
      have b2 := nxt b1 b2
      clear b1
      go_wp2_with fail
      refine (specMovesOfPlan_any _ _ _ _ _ o1.sv o2.svv hl HF.out).mono ?_
      rintro e w3 ⟨rfl, b3⟩
      have b3 := nxt b2 b3
      clear b2 o1 o2
      go_wp2_with fail
      refine (toIntS_any _ _ _ (HS.out.below b3 (Nat.le_refl _)) hl).mono ?_
      rintro e w4 ⟨u4, rfl, o4, -, b4⟩
      have b4' := nxt b3 b4
      clear b3 b4
      go_wp2_with fail
      refine (toIntSS_any _ _ _ (HU.out.below b4' (Nat.le_refl _)) HF.out).mono ?_
      rintro e w5 ⟨u5, rfl, o5, b5⟩
      have o4 := o4.below b5 (Nat.le_refl _)
      have b5 := nxt b4' b5
      clear b4'
      go_wp2_with fail
      refine (implMovesOfPlan_any _ _ _ _ _ o4.sv o5.svv hl HF.out).mono ?_
      rintro e w6 ⟨rfl, b6⟩
      have o4 := o4.below b6 (Nat.le_refl _)
      have o5 := o5.below b6 (Nat.le_refl _)
      have b6 := nxt b5 b6
      clear b5
      go_wp2_with fail
      refine (toIntS_any _ _ _ (HS.out.below b6 (Nat.le_refl _)) hl).mono ?_
      rintro e w7 ⟨u7, rfl, o7, -, b7⟩
      have o4 := o4.below b7 (Nat.le_refl _)
      have o5 := o5.below b7 (Nat.le_refl _)
      have b7 := nxt b6 b7
      clear b6
      go_wp2_with fail
      refine (eqIntS_yes _ _ _ _ _ o4.sv o7.sv rfl hl).mono ?_
      rintro e w8 ⟨rfl, b8⟩
      have o5 := o5.below b8 (Nat.le_refl _)
      have b8 := nxt b7 b8
      clear b7 o4 o7
      go_wp2_with fail
      refine (toIntSS_any _ _ _ (HU.out.below b8 (Nat.le_refl _)) HF.out).mono ?_
      rintro e w9 ⟨u9, rfl, o9, b9⟩
      have o5 := o5.below b9 (Nat.le_refl _)
      have b9 := nxt b8 b9
      clear b8
      go_wp2_with fail
      refine (eqIntSS_yes _ _ _ _ o5.svv o9.svv HF.out).mono ?_
      rintro e w10 ⟨rfl, b10⟩
      have b10 := nxt b9 b10
      clear b9 o5 o9
      go_wp2_with fail
      go_ret
      exact ⟨rfl, b10⟩
end Go.Proofs.Ytillkjkdpkgckaa
