/-
  What changes on a day of a plan in the program; the sum of what is held. Condition: slices of at most 2^20 numbers in all.
-/
import Derived.Test.YtkdnbphopcnpnaaDoorPchge
import Derived.Deep.RegionWith
namespace Go.Proofs.YtkdnbphopcnpnaaDoor
open Go.RowKit

noncomputable def okP (xs : List Int) (pl : List (List Int)) : Bool := fewB xs && planB xs.length pl
theorem okP_few {xs : List Int} {pl : List (List Int)} (h : fewB xs = false) : okP xs pl = false := by simp [okP, h]
theorem okP_plan {xs : List Int} {pl : List (List Int)} (h : planB xs.length pl = false) : okP xs pl = false := by simp [okP, h]
theorem okP_yes {xs : List Int} {pl : List (List Int)} (h : fewB xs = true) (h2 : planB xs.length pl = true) : okP xs pl = true := by simp [okP, h, h2]
theorem okP_iff {xs : List Int} {pl : List (List Int)} (h : okP xs pl = true) : fewB xs = true ∧ planB xs.length pl = true := by simpa [okP] using h

set_option maxHeartbeats 2000000 in
set_option maxRecDepth 20000 in
theorem changesOf_no (v u : Value) (xs : List Int) (pl : List (List Int)) (w : World) (hv : Sv w v xs) (hu : Svv w u pl) (hl : xs.length ≤ 1099511627776) (hf : Few2 pl) (hn : okP xs pl = false) :
    Calls Tryd.prog 17 #[v, u] w fun e w' => e = .returned (.tuple #[.slice none 0 0, .bool false]) ∧ Below w.heap.size w w' := by
  have HV := Lib.hid hv
  have HU := Lib.hid hu
  have HF := Lib.hid hf
  clear hv hu hf
  by_cases hg : fewB xs = true
  · have hp : planB xs.length pl = false := by simpa [okP, hg] using hn
    clear hn
    go_enter Tryd.func17, Tryd.ntmps17
    go_wp2_with fail
    refine (arePaid_any _ _ _ HV.out hl).mono ?_
    rintro e w1 ⟨rfl, b1⟩
    go_wp2_with fail
    refine (isPlan_any _ _ _ _ _ (HV.out.below b1 (Nat.le_refl _)) (HU.out.below b1 (Nat.le_refl _)) hl HF.out).mono ?_
    rintro e w2 ⟨rfl, rfl⟩
    go_wp2_with fail
    go_ret2
    exact ⟨rfl, b1⟩
  · have hg : fewB xs = false := by simpa using hg
    clear hn
    go_enter Tryd.func17, Tryd.ntmps17
    go_wp2_with fail
    refine (arePaid_any _ _ _ HV.out hl).mono ?_
    rintro e w1 ⟨rfl, b1⟩
    go_wp2_with fail
    go_ret2
    exact ⟨rfl, b1⟩

set_option maxHeartbeats 4000000 in
set_option maxRecDepth 20000 in
theorem changesOf_yes (v u : Value) (xs : List Int) (pl : List (List Int)) (w : World) (hv : Sv w v xs) (hu : Svv w u pl) (hf : Few2 pl) (hg : fewB xs = true) (hp : planB xs.length pl = true) :
    Calls Tryd.prog 17 #[v, u] w fun e w' => ∃ c, e = .returned (.tuple #[c, .bool true]) ∧ Cs w' w.heap.size c (chgL pl) ∧ Below w.heap.size w w' := by
  have h8 := (fewB_iff hg).2
  have hpo := planB_iff.1 hp
  have h60 := hpo.1
  have HP := Lib.hid hpo
  have hl : xs.length ≤ 1099511627776 := by omega
  have HV := Lib.hid hv
  have HU := Lib.hid hu
  have HF := Lib.hid hf
  obtain ⟨p, cap, rfl, hx⟩ := hu
  clear hv hf hpo
  go_enter Tryd.func17, Tryd.ntmps17
  go_wp2_with fail
  refine (arePaid_any _ _ _ HV.out hl).mono ?_
  rintro e w1 ⟨rfl, b1⟩
  go_wp2_with fail
  refine (isPlan_any _ _ _ _ _ (HV.out.below b1 (Nat.le_refl _)) (HU.out.below b1 (Nat.le_refl _)) hl HF.out).mono ?_
  rintro e w2 ⟨rfl, rfl⟩
  have z1 := b1.size
  clear HV HU
  go_wp2
  go_loopw [6, 21] (fun t i wr => ∃ k : Nat, k ≤ pl.length ∧ i = .int .i64 k ∧ Hs wr w.heap.size t ((pl.map maskL).take k) ∧ Below w.heap.size w wr) (fun _ i _ => pl.length - (intOf i).toNat)
  case atStart => exact ⟨0, Nat.zero_le _, rfl, or_mono (Hs.empty w1) z1, b1.alloc z1 _⟩
  case round =>
    obtain ⟨k, hk, rfl, ho, hb⟩ := hrel
    have hz := hb.size
    have hlk : ((pl.map maskL).take k).length ≤ 60 := by rw [List.length_take]; omega
    by_cases hlt : k < pl.length
    · obtain ⟨b, off, rfl, hbl, hc⟩ := hx (by omega)
      obtain ⟨u0, hc0, hs0⟩ := hc k hlt
      have hcell := (hb.cell (p := ⟨b, off + k, none⟩) hbl).trans hc0
      have hs1 := hs0.below hb (Nat.le_refl _)
      have hrs := (HP.out.row h8 hlt).2
      obtain ⟨m, em⟩ : ∃ m, maskL (rowL pl k) = m := ⟨_, rfl⟩
      have HO := heldOf_any _ _ wr hs1 hrs
      rw [show maskL (rowL pl k) = m from em] at HO
      have HO := Lib.hid HO
      have S : Hid ((pl.map maskL).take (k + 1) = (pl.map maskL).take k ++ [m]) := Lib.hid (by
        rw [List.take_add_one, List.getElem?_map, List.getElem?_eq_getElem hlt, ← em]
        simp [rowL, List.getD, hlt])
      clear hc hx hc0 hs0 hs1 hrs em
      go_wp2_with (first | (at_builtin; refine wpList_append_hs rfl _ _ rfl w.heap.size _ ((pl.map maskL).take k) rfl (World.ownsRow.alloc ho _) wr.heap.size m rfl (by simp) (by omega) (by simp; omega) ?_; intro v' w3 h3 g3) | (go_at_call 25; refine (HO.out).mono ?_; rintro e w2 ⟨rfl, rfl⟩))
      have b3 := (hb.alloc hz _).trans (or_grown (World.ownsRow.alloc ho _) (by simp; omega) g3)
      clear ho g3 hb HO
      go_roundw
      case rel => exact ⟨k + 1, by omega, by go_num, by rw [S.out]; exact h3, b3⟩
      case measure => simp only [intOf]; omega
    · clear hx
      have hke : k = pl.length := by omega
      subst hke
      have ho2 : Hs wr w.heap.size u6 (pl.map maskL) := by
        have e : (pl.map maskL).take pl.length = pl.map maskL := List.take_of_length_le (by simp)
        rw [e] at ho; exact ho
      clear ho
      go_wp2_with fail
      refine (changesBetween_any _ _ _ _ ho2 (by simpa using h60)).mono ?_
      rintro e w4 ⟨c, rfl, o4, b4⟩
      rw [chgM_plan] at o4
      go_wp2_with fail
      go_ret2
      exact ⟨_, rfl, or_mono o4 hz, nxt hb b4⟩

end Go.Proofs.YtkdnbphopcnpnaaDoor
