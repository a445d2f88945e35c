/-
  The law on ParsePuzzle, walked: whatever text comes in, it returns true and writes nothing that was there. Condition: the library's variables hold what they held at the start.
-/
import Derived.Test.YtgojlabkngnkdaaDoorYps
import Derived.Test.YtgojlabkngnkdaaDoorYpp
namespace Go.Proofs.YtgojlabkngnkdaaDoor
open Go.RowKit

theorem bstr_ofP (s : ByteArray) : bstr s.data.toList = s := by unfold bstr; simp

set_option maxHeartbeats 8000000 in
set_option maxRecDepth 20000 in
theorem lawParsePuzzle (s : ByteArray) (w : World) (hs : s.size ≤ 9223372036854775807) (hE : Env w) :
    Calls Tryd.prog 6 #[.string s] w fun e w' => e = .returned (.bool true) ∧ Below w.heap.size w w' := by
  by_cases hl : s.size ≤ 1048576
  · obtain ⟨l, el⟩ : ∃ l, s.data.toList = l := ⟨_, rfl⟩
    have hsz : l.length = s.size := by rw [← el]; exact Array.length_toList
    have e2 : bstr l = s := by rw [← el]; exact bstr_ofP s
    have hll : l.length ≤ 1048576 := by omega
    have HRm := Lib.hid (show (ppR l).length ≤ 1048576 by have := ppR_len l; omega)
    have HR := Lib.hid (show (ppR l).length ≤ 1099511627776 by have := ppR_len l; omega)
    have hsp := fun wx => specParsePz_any l wx hll
    have him := fun wx (hx : Env wx) => implParsePz_any l wx hll hx
    rw [e2] at hsp him
    generalize ppR l = R at *
    generalize ppB l = RB at *
    have HSP : ∀ wx, Hid _ := fun wx => Lib.hid (hsp wx)
    have HIM : ∀ wx, Env wx → Hid _ := fun wx hx => Lib.hid (him wx hx)
    have HE := Lib.hid hE
    clear el e2 hsp him hE hsz hll
    go_enter Tryd.func6, Tryd.ntmps6
    go_wp2_with fail
    refine ((HSP _).out).mono ?_
    rintro e w2 ⟨y2, rfl, s2, t⟩
    obtain ⟨p2, c2, rfl⟩ := s2.shape
    obtain ⟨W2, eW2⟩ : ∃ x, w2.alloc (.cells #[.slice p2 R.length c2] 43) = x := ⟨_, rfl⟩
    have b : Below w2.heap.size w2 W2 := by rw [← eW2]; exact (Below.refl _ _).alloc (Nat.le_refl _) _
    have V : Bx W2 w2.heap.size (.slice p2 R.length c2) := by rw [← eW2]; exact bx_new _ _ _
    have S2 := Lib.hid (s2.cv.below b (Nat.le_refl _))
    clear s2
    replace t := nxt t b
    clear b
    have ZV := V.lt
    go_wp2_with fail
    clear eW2
    refine ((HIM _ (HE.out.below t (Nat.le_refl _))).out).mono ?_
    rintro e w4 ⟨y4, rfl, o4, b⟩
    have T := b
    have tz := t.size
    replace V := V.below b
    replace t := nxt t b
    clear b
    obtain ⟨p4, c4, rfl⟩ := o4.shape
    obtain ⟨W4, eW4⟩ : ∃ x, w4.alloc (.cells #[.slice p4 R.length c4] 43) = x := ⟨_, rfl⟩
    have b : Below w4.heap.size w4 W4 := by rw [← eW4]; exact (Below.refl _ _).alloc (Nat.le_refl _) _
    have G : Bx W4 w4.heap.size (.slice p4 R.length c4) := by rw [← eW4]; exact bx_new _ _ _
    have OB := o4.lo (Nat.le_refl _)
    replace V := V.below b
    replace o4 := o4.below b (Nat.le_refl _)
    replace t := nxt t b
    replace T := nxt T b
    clear b
    have cG := G.cell
    have cV := V.cell
    go_wp2_with fail
    clear cG cV eW4
    refine (eqPuzzle_yes _ _ _ _ _ o4.cv (S2.out.below T (Nat.le_refl _)) rfl HR.out).mono ?_
    rintro e w5 ⟨rfl, b⟩
    replace V := V.below b
    replace o4 := o4.below b (Nat.le_refl _)
    replace G := G.below b
    replace t := nxt t b
    replace T := nxt T b
    clear b
    have cG := G.cell
    go_wp2_with fail
    clear cG
    have ZT := T.size
    refine (markPuzzle_any _ R _ 1 _ o4 HRm.out (by omega) (by omega)).mono ?_
    rintro e w10 ⟨rfl, o10, g10⟩
    have m10 := mid_row g10 OB
    clear g10 o4 OB
    replace V := V.mid m10 (.inl ZV)
    replace G := G.mid m10 (.inr (Nat.le_refl _))
    have b := m10.below ZT
    replace T := T.trans b
    replace t := t.trans (b.mono tz)
    clear b m10
    have d2 : decide (1 + 3 * (R.length : Int) < 0) = false := by simp; omega
    have cG := G.cell
    go_wp2_with fail
    clear cG
    refine (heldPuzzle_any _ R.length 1 _ o10.cv HRm.out (by omega) (by omega)).mono ?_
    rintro e w11 ⟨rfl, b⟩
    replace V := V.below b
    replace G := G.below b
    replace o10 := o10.below b (Nat.le_refl _)
    replace t := nxt t b
    replace T := nxt T b
    clear b
    go_wp2_with fail
    refine ((HIM _ (HE.out.below t (Nat.le_refl _))).out).mono ?_
    rintro e w13 ⟨y13, rfl, o13, b⟩
    replace V := V.below b
    replace G := G.below b
    replace o10 := o10.below b (Nat.le_refl _)
    replace t := nxt t b
    replace T := nxt T b
    clear b
    obtain ⟨p13, c13, rfl⟩ := o13.shape
    obtain ⟨W13, eW13⟩ : ∃ x, w13.alloc (.cells #[.slice p13 R.length c13] 43) = x := ⟨_, rfl⟩
    have b : Below w13.heap.size w13 W13 := by rw [← eW13]; exact (Below.refl _ _).alloc (Nat.le_refl _) _
    have H : Bx W13 w13.heap.size (.slice p13 R.length c13) := by rw [← eW13]; exact bx_new _ _ _
    replace V := V.below b
    replace G := G.below b
    replace o10 := o10.below b (Nat.le_refl _)
    replace o13 := o13.below b (Nat.le_refl _)
    replace t := nxt t b
    replace T := nxt T b
    clear b
    have cH := H.cell
    have cV := V.cell
    go_wp2_with fail
    clear cH cV eW13
    refine (eqPuzzle_yes _ _ _ _ _ o13.cv (S2.out.below T (Nat.le_refl _)) rfl HR.out).mono ?_
    rintro e w14 ⟨rfl, b⟩
    replace V := V.below b
    replace G := G.below b
    replace o10 := o10.below b (Nat.le_refl _)
    replace o13 := o13.below b (Nat.le_refl _)
    replace H := H.below b
    replace t := nxt t b
    replace T := nxt T b
    clear b
    clear o13 H
    have cG := G.cell
    go_wp2_with fail
    clear cG
    refine (heldPuzzle_any _ R.length 1 _ o10.cv HRm.out (by omega) (by omega)).mono ?_
    rintro e w15 ⟨rfl, b⟩
    replace V := V.below b
    replace G := G.below b
    replace o10 := o10.below b (Nat.le_refl _)
    replace t := nxt t b
    replace T := nxt T b
    clear b
    go_wp2_with fail
    go_ret
    exact ⟨rfl, t⟩
  · have hgt : (1048576 : Int) < (s.size : Int) := by omega
    clear hE
    go_enter Tryd.func6, Tryd.ntmps6
    go_wp2
    go_ret
    exact ⟨rfl, Below.refl _ _⟩

end Go.Proofs.YtgojlabkngnkdaaDoor
