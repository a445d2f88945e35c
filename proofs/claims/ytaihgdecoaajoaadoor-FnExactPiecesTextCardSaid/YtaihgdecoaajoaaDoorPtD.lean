/-
  PiecesText: the model and the program give the same text, and the law that compares them says true. Conditions: the library's table of powers of ten is as it was laid.
-/
import Derived.Test.YtaihgdecoaajoaaDoorNtx
namespace Go.Proofs.YtaihgdecoaajoaaDoor
open Go.RowKit

noncomputable def textA (xs : List Int) : ByteArray := if goodB xs = true then (if xs.length = 0 then bstr [48] else bstr (txtK xs xs.length)) else ⟨#[]⟩
theorem textA_bad {xs : List Int} (h : goodB xs = false) : textA xs = ⟨#[]⟩ := by unfold textA; rw [h]; rfl
theorem textA_none {xs : List Int} (h : goodB xs = true) (h0 : xs.length = 0) : textA xs = bstr [48] := by unfold textA; rw [if_pos h, if_pos h0]
theorem textA_some {xs : List Int} (h : goodB xs = true) (h0 : ¬ xs.length = 0) : textA xs = bstr (txtK xs xs.length) := by unfold textA; rw [if_pos h, if_neg h0]
theorem ret_text {a b : ByteArray} {g : Bool} (h : a = b) : Ending.returned (.tuple #[.string a, .bool g]) = .returned (.tuple #[.string b, .bool g]) := by rw [h]

theorem piText_none (v : Value) (xs : List Int) (w : World) (h : Sv w v xs) (h0 : xs.length = 0) :
    Calls Tryd.prog 26 #[v] w fun e w' => e = .returned (.string (bstr [48])) ∧ Below w.heap.size w w' := by
  obtain ⟨p, cap, rfl, hx⟩ := h
  clear hx
  have hz : (((xs.length : Nat) : Int) == 0) = true := by rw [h0]; rfl
  clear h0
  go_enter Tryd.func26, Tryd.ntmps26
  go_wp2
  go_ret
  exact ⟨rfl, Below.refl _ _⟩
theorem piText_good (v : Value) (xs : List Int) (w : World) (h : Sv w v xs) (hg : goodB xs = true) :
    Calls Tryd.prog 26 #[v] w fun e w' => e = .returned (.string (textA xs)) ∧ Below w.heap.size w w' := by
  have g := goodB_iff.1 hg
  by_cases h0 : xs.length = 0
  · rw [textA_none hg h0]; exact piText_none v xs w h h0
  · rw [textA_some hg h0]; exact piText_any v xs w h g.1 (by omega) (fun j hj => inB_iff.2 (g.2.1 j hj))

theorem specText_any (v : Value) (xs : List Int) (w : World) (h : Sv w v xs) (hl : xs.length ≤ 1099511627776) :
    Calls Tryd.prog 15 #[v] w fun e w' => e = .returned (.tuple #[.string (textA xs), .bool (goodB xs)]) ∧ Below w.heap.size w w' := by
  have hs := h
  cases hg : goodB xs with
  | false =>
    have HA := Lib.hid (textA_bad hg)
    have HG := Lib.hid hg
    clear hg
    go_enter Tryd.func15, Tryd.ntmps15
    go_wp2_with fail
    refine (piGood_any _ _ _ hs hl).mono ?_
    rintro e w1 ⟨rfl, b1⟩
    have hg := HG.out
    go_wp2_with fail
    go_ret2
    exact ⟨ret_text HA.out.symm, b1⟩
  | true =>
    have HG := Lib.hid hg
    clear hg
    go_enter Tryd.func15, Tryd.ntmps15
    go_wp2_with fail
    refine (piGood_any _ _ _ hs hl).mono ?_
    rintro e w1 ⟨rfl, b1⟩
    have hg := HG.out
    go_wp2_with fail
    refine (piText_good _ _ _ (hs.below b1 (Nat.le_refl _)) HG.out).mono ?_
    rintro e w2 ⟨rfl, b2⟩
    go_wp2_with fail
    go_ret2
    exact ⟨rfl, nxt b1 b2⟩

theorem implTextD (v : Value) (xs : List Int) (w : World) (h : Sv w v xs) (hp : 0 < xs.length) (hgd : goodB xs = true) (ht : Ten w) :
    Calls Tryd.prog 16 #[v] w fun e w' => e = .returned (.tuple #[.string (bstr (txtK xs xs.length)), .bool true]) ∧ Below w.heap.size w w' := by
  have g := goodB_iff.1 hgd
  have hl : xs.length ≤ 20 := g.1
  have HG := Lib.hid hgd
  have TX : Hid (itG 43 xs = txtK xs xs.length) := Lib.hid (itG_txt fun x hx => by
    obtain ⟨j, hj, rfl⟩ := List.getElem_of_mem hx
    have := g.2.1 j hj
    rw [List.getD_eq_getElem?_getD, List.getElem?_eq_getElem hj] at this
    simp only [Option.getD_some] at this
    omega)
  have RN : ∀ x ∈ xs, -9223372036854775808 ≤ x ∧ x ≤ 9223372036854775807 := fun x hx => by
    obtain ⟨j, hj, rfl⟩ := List.getElem_of_mem hx
    have := g.2.1 j hj
    rw [List.getD_eq_getElem?_getD, List.getElem?_eq_getElem hj] at this
    simp only [Option.getD_some] at this
    omega
  have AP := Lib.hid (arePieces_any _ _ _ h (by omega))
  have NT := fun W (hW : Below w.heap.size w W) => Lib.hid (numbersText_any 43 v xs W (h.below hW (Nat.le_refl _)) hp (by omega) RN (ht.below hW (Nat.le_refl _)))
  rw [hgd] at AP
  obtain ⟨p, cap, rfl, hx⟩ := h
  have hz : (((xs.length : Nat) : Int) == 0) = false := by rw [beq_eq_false_iff_ne]; omega
  clear hx ht hgd g RN
  go_enter Tryd.func16, Tryd.ntmps16
  go_wp2_with fail
  refine AP.out.mono ?_
  rintro e w1 ⟨rfl, b1⟩
  go_wp2_with fail
  refine (NT _ b1).out.mono ?_
  rintro e w2 ⟨rfl, b2⟩
  go_wp2_with fail
  go_ret2
  exact ⟨by rw [← TX.out]; rfl, nxt b1 b2⟩
theorem implText_any (v : Value) (xs : List Int) (w : World) (h : Sv w v xs) (hl : xs.length ≤ 1099511627776) (ht : Ten w) :
    Calls Tryd.prog 16 #[v] w fun e w' => e = .returned (.tuple #[.string (textA xs), .bool (goodB xs)]) ∧ Below w.heap.size w w' := by
  have hs := h
  cases hg : goodB xs with
  | false =>
    have HA := Lib.hid (textA_bad hg)
    have HG := Lib.hid hg
    clear hg ht
    go_enter Tryd.func16, Tryd.ntmps16
    go_wp2_with fail
    refine (arePieces_any _ _ _ hs hl).mono ?_
    rintro e w1 ⟨rfl, b1⟩
    have hg := HG.out
    go_wp2_with fail
    go_ret2
    exact ⟨ret_text HA.out.symm, b1⟩
  | true =>
    have g := goodB_iff.1 hg
    by_cases h0 : xs.length = 0
    · have HA := Lib.hid (textA_none hg h0)
      have HG := Lib.hid hg
      obtain ⟨p, cap, rfl, hx⟩ := h
      clear hx
      have hz : (((xs.length : Nat) : Int) == 0) = true := by rw [h0]; rfl
      clear h0 hg ht g
      go_enter Tryd.func16, Tryd.ntmps16
      go_wp2_with fail
      refine (arePieces_any _ _ _ hs hl).mono ?_
      rintro e w1 ⟨rfl, b1⟩
      have hg := HG.out
      go_wp2_with fail
      go_ret2
      exact ⟨ret_text HA.out.symm, b1⟩
    · rw [textA_some hg h0]
      exact implTextD v xs w h (by omega) hg ht

set_option maxHeartbeats 2000000 in
theorem lawPiecesText (v : Value) (xs : List Int) (w : World) (h : Sv w v xs) (hm : xs.length ≤ 9223372036854775807) (ht : Ten w) :
    Calls Tryd.prog 5 #[v] w fun e w' => e = .returned (.bool true) ∧ Below w.heap.size w w' := by
  have hs := h
  have HT := Lib.hid ht
  clear ht
  obtain ⟨p, cap, rfl, hx⟩ := h
  clear hx
  by_cases hbig : 1048576 < xs.length
  · go_enter Tryd.func5, Tryd.ntmps5
    go_wp2
    go_ret
    exact ⟨rfl, Below.refl _ _⟩
  · have hl : xs.length ≤ 1099511627776 := by omega
    go_enter Tryd.func5, Tryd.ntmps5
    go_wp2_with fail
    refine (toIntS_any _ _ _ hs hl).mono ?_
    rintro e w1 ⟨u1, rfl, o1, oa1, b1⟩
    go_wp2_with fail
    refine (specText_any _ _ _ o1.sv hl).mono ?_
    rintro e w2 ⟨rfl, b2⟩
    clear o1 oa1
    have b2 := nxt b1 b2
    clear b1
    go_wp2_with fail
    refine (toIntS_any _ _ _ (hs.below b2 (Nat.le_refl _)) hl).mono ?_
    rintro e w3 ⟨u3, rfl, o3, oa3, b3⟩
    have b3 := nxt b2 b3
    clear b2
    go_wp2_with fail
    refine (implText_any _ _ _ o3.sv hl (HT.out.below b3 (Nat.le_refl _))).mono ?_
    rintro e w4 ⟨rfl, b4⟩
    have o4 := o3.below b4 (Nat.le_refl _)
    have b4 := nxt b3 b4
    clear o3 b3 oa3
    go_wp2_with fail
    refine (toIntS_any _ _ _ (hs.below b4 (Nat.le_refl _)) hl).mono ?_
    rintro e w5 ⟨u5, rfl, o5, -, b5⟩
    have o6 := o4.below b5 (Nat.le_refl _)
    have b5 := nxt b4 b5
    go_wp2_with fail
    refine (eqIntS_yes _ _ _ _ _ o6.sv o5.sv rfl hl).mono ?_
    rintro e w6 ⟨rfl, b6⟩
    have b6 := nxt b5 b6
    clear o4 o5 o6 b4 b5
    go_wp2_with fail
    go_ret
    exact ⟨rfl, b6⟩
end Go.Proofs.YtaihgdecoaajoaaDoor
