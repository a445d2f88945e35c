/-
  PlanText: the model and the program give the same text, and the law that compares them says true. Conditions: the library's table of powers of ten is as it was laid.
-/
import Derived.Test.YtkdnbphopcnpnaaDoorPst
namespace Go.Proofs.YtkdnbphopcnpnaaDoor
open Go.RowKit

set_option maxHeartbeats 2000000 in
theorem specPlanText_any (v u : Value) (xs : List Int) (pl : List (List Int)) (w : World) (hv : Sv w v xs) (hu : Svv w u pl) (hl : xs.length ≤ 1099511627776) (hf : Few2 pl) :
    Calls Tryd.prog 5 #[v, u] w fun e w' => e = .returned (.tuple #[.string (ptR xs pl), .bool (okP xs pl)]) ∧ Below w.heap.size w w' := by
  by_cases hg : fewB xs = true
  · by_cases hp : planB xs.length pl = true
    · rw [ptR_yes (okP_yes hg hp), okP_yes hg hp]
      exact specPlanText_yes v u xs pl w hv hu hl hf hg hp
    · have hp : planB xs.length pl = false := by simpa using hp
      have R := Lib.hid (ptR_no (okP_plan (xs := xs) hp))
      have HDY := Lib.hid (okP_plan (xs := xs) hp)
      have HV := Lib.hid hv
      have HU := Lib.hid hu
      have HF := Lib.hid hf
      clear hu hv hf
      go_enter Tryd.func5, Tryd.ntmps5
      go_wp2_with fail
      refine (paFew_any _ _ _ HV.out hl).mono ?_
      rintro e w1 ⟨rfl, b1⟩
      go_wp2_with fail
      refine (paPlan_any _ _ _ _ _ (HV.out.below b1 (Nat.le_refl _)) (HU.out.below b1 (Nat.le_refl _)) hl HF.out).mono ?_
      rintro e w2 ⟨rfl, b2⟩
      go_wp2_with fail
      go_ret2
      exact ⟨ret_sb R.out.symm HDY.out.symm, nxt b1 b2⟩
  · have hg : fewB xs = false := by simpa using hg
    have R := Lib.hid (ptR_no (okP_few (pl := pl) hg))
    have HDY := Lib.hid (okP_few (pl := pl) hg)
    have HV := Lib.hid hv
    clear hu hv
    go_enter Tryd.func5, Tryd.ntmps5
    go_wp2_with fail
    refine (paFew_any _ _ _ HV.out hl).mono ?_
    rintro e w1 ⟨rfl, b1⟩
    go_wp2_with fail
    go_ret2
    exact ⟨ret_sb R.out.symm HDY.out.symm, b1⟩

set_option maxHeartbeats 4000000 in
theorem lawPlanText (v u : Value) (xs : List Int) (pl : List (List Int)) (w : World) (hv : Sv w v xs) (hu : Svv w u pl) (_hm : xs.length ≤ 9223372036854775807) (hn : pl.length ≤ 9223372036854775807) (hr : ∀ j, j < pl.length → (rowL pl j).length ≤ 9223372036854775807) (ht : Ten w) :
    Calls Tryd.prog 3 #[v, u] w fun e w' => e = .returned (.bool true) ∧ Below w.heap.size w w' := by
  have hs := hv
  have HT := Lib.hid ht
  clear ht
  obtain ⟨p, cap, rfl, hx⟩ := hv
  clear hx
  by_cases hbig : 1048576 < xs.length
  · clear hu hr hs
    go_enter Tryd.func3, Tryd.ntmps3
    go_wp2
    go_ret
    exact ⟨rfl, Below.refl _ _⟩
  · have hl : xs.length ≤ 1099511627776 := by omega
    have SZ := Lib.hid (szIntSS_any u pl w hu hn hr)
    have HS := Lib.hid hs
    have HU := Lib.hid hu
    clear hu hr hs hn
    go_enter Tryd.func3, Tryd.ntmps3
    go_wp2_with fail
    refine SZ.out.mono ?_
    rintro e w0 ⟨⟨r, rfl, hr⟩, rfl⟩
    clear SZ
    by_cases hneg : r < 0
    · clear hr
      go_wp2_with fail
      go_ret
      exact ⟨rfl, Below.refl _ _⟩
    · have hf : Few2 pl := by rcases hr with h | h; exact absurd h hneg; exact h.2
      have HF := Lib.hid hf
      clear hr hf
      go_wp2_with fail
      refine (toIntS_any _ _ _ HS.out hl).mono ?_
      rintro e w1 ⟨u1, rfl, o1, -, b1⟩
      go_wp2_with fail
      refine (toIntSS_any _ _ _ (HU.out.below b1 (Nat.le_refl _)) HF.out).mono ?_
      rintro e w2 ⟨u2, rfl, o2, b2⟩
      have o1 := o1.below b2 (Nat.le_refl _)
      have b2 := nxt b1 b2
      clear b1
      go_wp2_with fail
      refine (specPlanText_any _ _ _ _ _ o1.sv o2.svv hl HF.out).mono ?_
      rintro e w3 ⟨rfl, b3⟩
      have b3 := nxt b2 b3
      clear b2 o1 o2
      go_wp2_with fail
      refine (toIntS_any _ _ _ (HS.out.below b3 (Nat.le_refl _)) hl).mono ?_
      rintro e w4 ⟨u4, rfl, o4, -, b4⟩
      have b4' := nxt b3 b4
      clear b3 b4
      go_wp2_with fail
      refine (toIntSS_any _ _ _ (HU.out.below b4' (Nat.le_refl _)) HF.out).mono ?_
      rintro e w5 ⟨u5, rfl, o5, b5⟩
      have o4 := o4.below b5 (Nat.le_refl _)
      have b5 := nxt b4' b5
      clear b4'
      go_wp2_with fail
      refine (implPlanText_any _ _ _ _ _ o4.sv o5.svv hl HF.out (HT.out.below b5 (Nat.le_refl _))).mono ?_
      rintro e w6 ⟨rfl, b6⟩
      have o4 := o4.below b6 (Nat.le_refl _)
      have o5 := o5.below b6 (Nat.le_refl _)
      have b6 := nxt b5 b6
      clear b5
      go_wp2_with fail
      refine (toIntS_any _ _ _ (HS.out.below b6 (Nat.le_refl _)) hl).mono ?_
      rintro e w7 ⟨u7, rfl, o7, -, b7⟩
      have o4 := o4.below b7 (Nat.le_refl _)
      have o5 := o5.below b7 (Nat.le_refl _)
      have b7 := nxt b6 b7
      clear b6
      go_wp2_with fail
      refine (eqIntS_yes _ _ _ _ _ o4.sv o7.sv rfl hl).mono ?_
      rintro e w8 ⟨rfl, b8⟩
      have o5 := o5.below b8 (Nat.le_refl _)
      have b8 := nxt b7 b8
      clear b7 o4 o7
      go_wp2_with fail
      refine (toIntSS_any _ _ _ (HU.out.below b8 (Nat.le_refl _)) HF.out).mono ?_
      rintro e w9 ⟨u9, rfl, o9, b9⟩
      have o5 := o5.below b9 (Nat.le_refl _)
      have b9 := nxt b8 b9
      clear b8
      go_wp2_with fail
      refine (eqIntSS_yes _ _ _ _ o5.svv o9.svv HF.out).mono ?_
      rintro e w10 ⟨rfl, b10⟩
      have b10 := nxt b9 b10
      clear b9 o5 o9
      go_wp2_with fail
      go_ret
      exact ⟨rfl, b10⟩
end Go.Proofs.YtkdnbphopcnpnaaDoor
