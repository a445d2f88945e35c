/-
  RulerText: the model and the program give the same text, and the law that compares them says true. Conditions: the library's table of powers of ten is as it was laid.
-/
import Derived.Test.YtaihgdecoaajoaaDoorRtx
namespace Go.Proofs.YtaihgdecoaajoaaDoor
open Go.RowKit

noncomputable def rtA (ms : List Int) : ByteArray := if rulB ms = true then bstr (itG 124 ms) else ⟨#[]⟩
theorem rtA_bad {ms : List Int} (h : rulB ms = false) : rtA ms = ⟨#[]⟩ := by unfold rtA; rw [h]; rfl
theorem rtA_good {ms : List Int} (h : rulB ms = true) : rtA ms = bstr (itG 124 ms) := by unfold rtA; rw [if_pos h]
theorem ret_text {a b : ByteArray} {g : Bool} (h : a = b) : Ending.returned (.tuple #[.string a, .bool g]) = .returned (.tuple #[.string b, .bool g]) := by rw [h]
theorem rul_mem {ms : List Int} (S : Rul ms) {x : Int} (hx : x ∈ ms) : 0 ≤ x ∧ x ≤ 60 := by
  obtain ⟨j, hj, rfl⟩ := List.getElem_of_mem hx
  have := S.ris.1 j hj
  rw [List.getD_eq_getElem?_getD, List.getElem?_eq_getElem hj] at this
  simpa using this
theorem itR_txt {ms : List Int} (S : Rul ms) : txtR ms ms.length = itG 124 ms := by
  unfold itG txtR
  rw [List.take_length]
  congr 1
  exact List.map_congr_left fun x hx => (itoa_dd (rul_mem S hx).1).symm

theorem specRT_any (v : Value) (ms : List Int) (w : World) (h : Sp w v ms) (hl : ms.length ≤ 1099511627776) :
    Calls Tryd.prog 7 #[v] w fun e w' => e = .returned (.tuple #[.string (rtA ms), .bool (rulB ms)]) ∧ Below w.heap.size w w' := by
  have RG := Lib.hid (ruGood_any v ms w h.sv hl)
  cases hg : rulB ms with
  | false =>
    have HA := Lib.hid (rtA_bad hg)
    rw [hg] at RG
    clear hg
    go_enter Tryd.func7, Tryd.ntmps7
    go_wp2_with fail
    refine RG.out.mono ?_
    rintro e w1 ⟨rfl, b1⟩
    go_wp2_with fail
    go_ret2
    exact ⟨ret_text HA.out.symm, b1⟩
  | true =>
    have S := rulB_iff.1 hg
    have hlb := S.last_bd
    have h2 := S.two
    have HA := Lib.hid (rtA_good hg)
    have IT := Lib.hid (itR_txt S)
    have RT := fun W (hW : Below w.heap.size w W) => Lib.hid (ruText_any v ms W (h.sv.below hW (Nat.le_refl _)) hlb.2.2 (by omega) (fun j hj => inB_iff.2 (S.ris.1 j hj)))
    rw [hg] at RG
    clear hg S h
    go_enter Tryd.func7, Tryd.ntmps7
    go_wp2_with fail
    refine RG.out.mono ?_
    rintro e w1 ⟨rfl, b1⟩
    go_wp2_with fail
    refine (RT _ b1).out.mono ?_
    rintro e w2 ⟨rfl, b2⟩
    go_wp2_with fail
    go_ret2
    exact ⟨ret_text (by rw [HA.out, IT.out]), nxt b1 b2⟩

theorem implRT_any (v : Value) (ms : List Int) (w : World) (h : Sp w v ms) (hl : ms.length ≤ 1099511627776) (ht : Ten w) :
    Calls Tryd.prog 9 #[v] w fun e w' => e = .returned (.tuple #[.string (rtA ms), .bool (rulB ms)]) ∧ Below w.heap.size w w' := by
  have RG := Lib.hid (implIsRuler_any v ms w h hl)
  cases hg : rulB ms with
  | false =>
    have HA := Lib.hid (rtA_bad hg)
    rw [hg] at RG
    clear hg ht
    go_enter Tryd.func9, Tryd.ntmps9
    go_wp2_with fail
    refine RG.out.mono ?_
    rintro e w1 ⟨rfl, b1⟩
    go_wp2_with fail
    go_ret2
    exact ⟨ret_text HA.out.symm, b1⟩
  | true =>
    have S := rulB_iff.1 hg
    have hlb := S.last_bd
    have h2 := S.two
    have HA := Lib.hid (rtA_good hg)
    have RN : ∀ x ∈ ms, -9223372036854775808 ≤ x ∧ x ≤ 9223372036854775807 := fun x hx => by have := rul_mem S hx; omega
    have NT := fun W (hW : Below w.heap.size w W) => Lib.hid (numbersText_any 124 v ms W (h.sv.below hW (Nat.le_refl _)) (by omega) (by omega) RN (ht.below hW (Nat.le_refl _)))
    rw [hg] at RG
    clear hg S h ht RN
    go_enter Tryd.func9, Tryd.ntmps9
    go_wp2_with fail
    refine RG.out.mono ?_
    rintro e w1 ⟨rfl, b1⟩
    go_wp2_with fail
    refine (NT _ b1).out.mono ?_
    rintro e w2 ⟨rfl, b2⟩
    go_wp2_with fail
    go_ret2
    exact ⟨ret_text HA.out.symm, nxt b1 b2⟩

set_option maxHeartbeats 2000000 in
theorem lawRulerText (v : Value) (xs : List Int) (w : World) (h : Sv w v xs) (hm : xs.length ≤ 9223372036854775807) (ht : Ten w) :
    Calls Tryd.prog 3 #[v] w fun e w' => e = .returned (.bool true) ∧ Below w.heap.size w w' := by
  have hs := h
  have HT := Lib.hid ht
  clear ht
  obtain ⟨p, cap, rfl, hx⟩ := h
  clear hx
  by_cases hbig : 1048576 < xs.length
  · go_enter Tryd.func3, Tryd.ntmps3
    go_wp2
    go_ret
    exact ⟨rfl, Below.refl _ _⟩
  · have hl : xs.length ≤ 1099511627776 := by omega
    go_enter Tryd.func3, Tryd.ntmps3
    go_wp2_with fail
    refine (toIntS_any _ _ _ hs hl).mono ?_
    rintro e w1 ⟨u1, rfl, o1, oa1, b1⟩
    go_wp2_with fail
    refine (specRT_any _ _ _ (o1.sp oa1) hl).mono ?_
    rintro e w2 ⟨rfl, b2⟩
    clear o1 oa1
    have b2 := nxt b1 b2
    clear b1
    go_wp2_with fail
    refine (toIntS_any _ _ _ (hs.below b2 (Nat.le_refl _)) hl).mono ?_
    rintro e w3 ⟨u3, rfl, o3, oa3, b3⟩
    have b3 := nxt b2 b3
    clear b2
    go_wp2_with fail
    refine (implRT_any _ _ _ (o3.sp oa3) hl (HT.out.below b3 (Nat.le_refl _))).mono ?_
    rintro e w4 ⟨rfl, b4⟩
    have o4 := o3.below b4 (Nat.le_refl _)
    have b4 := nxt b3 b4
    clear o3 b3 oa3
    go_wp2_with fail
    refine (toIntS_any _ _ _ (hs.below b4 (Nat.le_refl _)) hl).mono ?_
    rintro e w5 ⟨u5, rfl, o5, -, b5⟩
    have o6 := o4.below b5 (Nat.le_refl _)
    have b5 := nxt b4 b5
    go_wp2_with fail
    refine (eqIntS_yes _ _ _ _ _ o6.sv o5.sv rfl hl).mono ?_
    rintro e w6 ⟨rfl, b6⟩
    have b6 := nxt b5 b6
    clear o4 o5 o6 b4 b5
    go_wp2_with fail
    go_ret
    exact ⟨rfl, b6⟩
end Go.Proofs.YtaihgdecoaajoaaDoor
