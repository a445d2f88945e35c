/-
  The law on MakePuzzle, walked: whatever comes in, it returns true and writes nothing that was there. No condition.
-/
import Derived.Test.YtphjiicdodkfbaaYmq
import Derived.Test.YtphjiicdodkfbaaYlw
namespace Go.Proofs.Ytphjiicdodkfbaa
open Go.RowKit

set_option maxHeartbeats 8000000 in
theorem lawMakePuzzle (v : Value) (xs : List Int) (m s : Int) (w : World) (h : Sv w v xs) :
    Calls Try.prog 18 #[v, .int .i64 m, .int .i64 s] w fun e w' => e = .returned (.bool true) ∧ Below w.heap.size w w' := by
  have HS := Lib.hid h
  obtain ⟨p, c, rfl⟩ := h.form
  clear h
  have t : Below w.heap.size w w := Below.refl _ _
  by_cases hbig : 1048576 < xs.length
  · go_enter Try.func18, Try.ntmps18
    go_wp2
    go_ret
    exact ⟨rfl, Below.refl _ _⟩
  have l : xs.length ≤ 1048576 := by omega
  have HL := Lib.hid (show xs.length ≤ 1099511627776 by omega)
  have HRm := Lib.hid (show (mkR xs m s).length ≤ 1048576 by have := mkR_len xs m s; omega)
  have HR := Lib.hid (show (mkR xs m s).length ≤ 1099511627776 by have := mkR_len xs m s; omega)
  go_enter Try.func18, Try.ntmps18
  go_wp2_with fail
  refine (toIntS_any _ _ _ (HS.out.below t (Nat.le_refl _)) HL.out).mono ?_
  rintro e w1 ⟨u1, rfl, o1, -, b⟩
  replace t := nxt t b
  clear b
  go_wp2_with fail
  refine (specMakePuzzle_any _ xs m s _ o1.sv HL.out).mono ?_
  rintro e w2 ⟨v2, rfl, s2, b⟩
  clear o1
  replace t := nxt t b
  clear b
  have S2 := Lib.hid s2.cv
  obtain ⟨p2, c2, rfl⟩ := s2.shape
  clear s2
  obtain ⟨W2, eW2⟩ : ∃ W2, w2.alloc (.cells #[.slice p2 (mkR xs m s).length c2] 39) = W2 := ⟨_, rfl⟩
  have b : Below w2.heap.size w2 W2 := by rw [← eW2]; exact (Below.refl _ _).alloc (Nat.le_refl _) _
  have V : Bx W2 w2.heap.size (.slice p2 (mkR xs m s).length c2) := by rw [← eW2]; exact bx_new _ _ _
  replace S2 := Lib.hid (S2.out.below b (Nat.le_refl _))
  replace t := nxt t b
  clear b
  have ZT : w.heap.size ≤ W2.heap.size := t.size
  have T : Below W2.heap.size W2 W2 := Below.refl _ _
  have ZV := V.lt
  go_wp2_with fail
  clear eW2
  refine (toIntS_any _ _ _ (HS.out.below t (Nat.le_refl _)) HL.out).mono ?_
  rintro e w3 ⟨u3, rfl, X, -, b⟩
  replace V := V.below b
  replace t := nxt t b
  replace T := nxt T b
  clear b
  have XB := fun g (hg : u3.ownBlock = some g) => World.ownsRow.lt X g hg
  have ZT3 : W2.heap.size ≤ w3.heap.size := T.size
  go_wp2_with fail
  refine (implMakePuzzle_any _ xs m s _ X.sv HL.out).mono ?_
  rintro e w4 ⟨u4, rfl, o4, b⟩
  have Z3 := b.size
  have Z34 := b.size
  replace V := V.below b
  replace X := X.below b (Nat.le_refl _)
  replace t := nxt t b
  replace T := nxt T b
  clear b
  obtain ⟨p4, c4, rfl⟩ := o4.shape
  obtain ⟨W4, eW4⟩ : ∃ W4, w4.alloc (.cells #[.slice p4 (mkR xs m s).length c4] 39) = W4 := ⟨_, rfl⟩
  have b : Below w4.heap.size w4 W4 := by rw [← eW4]; exact (Below.refl _ _).alloc (Nat.le_refl _) _
  have G : Bx W4 w4.heap.size (.slice p4 (mkR xs m s).length c4) := by rw [← eW4]; exact bx_new _ _ _
  have OB := o4.lo (Nat.le_refl _)
  replace V := V.below b
  replace X := X.below b (Nat.le_refl _)
  replace o4 := o4.below b (Nat.le_refl _)
  replace t := nxt t b
  replace T := nxt T b
  replace Z3 := Nat.le_trans Z3 b.size
  clear b
  have cG := G.cell
  have cV := V.cell
  go_wp2_with fail
  clear cG cV eW4
  refine (eqPuzzle_yes _ _ _ _ _ o4.cv (S2.out.below T (Nat.le_refl _)) rfl HR.out).mono ?_
  rintro e w5 ⟨rfl, b⟩
  replace V := V.below b
  replace X := X.below b (Nat.le_refl _)
  replace o4 := o4.below b (Nat.le_refl _)
  replace G := G.below b
  replace t := nxt t b
  replace T := nxt T b
  replace Z3 := Nat.le_trans Z3 b.size
  clear b
  go_wp2_with fail
  refine (toIntS_any _ _ _ (HS.out.below t (Nat.le_refl _)) HL.out).mono ?_
  rintro e w6 ⟨u6, rfl, o6, -, b⟩
  replace V := V.below b
  replace X := X.below b (Nat.le_refl _)
  replace o4 := o4.below b (Nat.le_refl _)
  replace G := G.below b
  replace t := nxt t b
  replace T := nxt T b
  replace Z3 := Nat.le_trans Z3 b.size
  clear b
  go_wp2_with fail
  refine (eqIntS_yes _ _ _ _ _ X.sv o6.sv rfl HL.out).mono ?_
  rintro e w7 ⟨rfl, b⟩
  clear o6
  replace V := V.below b
  replace X := X.below b (Nat.le_refl _)
  replace o4 := o4.below b (Nat.le_refl _)
  replace G := G.below b
  replace t := nxt t b
  replace T := nxt T b
  replace Z3 := Nat.le_trans Z3 b.size
  clear b
  have d1 : decide (1 + (xs.length : Int) < 0) = false := by simp; omega
  go_wp2_with fail
  refine (markIntS_any _ xs _ 1 _ X HL.out (by omega) (by omega)).mono ?_
  rintro e w8 ⟨rfl, -, g8⟩
  have m8 := mid_row g8 XB
  clear X g8 XB
  have zT := T.size
  replace V := V.mid m8 (.inl (by omega))
  replace o4 := o4.midO m8 (Nat.le_refl _)
  replace G := G.mid m8 (.inr (by omega))
  have b := (m8.below (by have := T.size; omega))
  replace Z3 := Nat.le_trans Z3 m8.size
  replace T := T.trans (b.mono (by omega))
  replace t := t.trans (b.mono (by omega))
  clear b m8
  have cG := G.cell
  have cV := V.cell
  go_wp2_with fail
  clear cG cV
  refine (eqPuzzle_yes _ _ _ _ _ o4.cv (S2.out.below T (Nat.le_refl _)) rfl HR.out).mono ?_
  rintro e w9 ⟨rfl, b⟩
  replace V := V.below b
  replace o4 := o4.below b (Nat.le_refl _)
  replace G := G.below b
  replace t := nxt t b
  replace T := nxt T b
  replace Z3 := Nat.le_trans Z3 b.size
  clear b
  have cG := G.cell
  go_wp2_with fail
  clear cG
  have zT := T.size
  refine (markPuzzle_any _ (mkR xs m s) _ 1 _ o4 HRm.out (by omega) (by omega)).mono ?_
  rintro e w10 ⟨rfl, o10, g10⟩
  have m10 := mid_row g10 OB
  clear g10 o4 OB
  replace V := V.mid m10 (.inl (by omega))
  replace G := G.mid m10 (.inr (by omega))
  have b := (m10.below (by have := T.size; omega))
  replace Z3 := Nat.le_trans Z3 m10.size
  replace T := T.trans (b.mono (by omega))
  replace t := t.trans (b.mono (by omega))
  clear b m10
  have d2 : decide (1 + 3 * ((mkR xs m s).length : Int) < 0) = false := by simp; omega
  have cG := G.cell
  go_wp2_with fail
  clear cG
  refine (heldPuzzle_any _ (mkR xs m s).length 1 _ o10.cv HRm.out (by omega) (by omega)).mono ?_
  rintro e w11 ⟨rfl, b⟩
  replace V := V.below b
  replace G := G.below b
  replace o10 := o10.below b (Nat.le_refl _)
  replace t := nxt t b
  replace T := nxt T b
  replace Z3 := Nat.le_trans Z3 b.size
  clear b
  go_wp2_with fail
  refine (toIntS_any _ _ _ (HS.out.below t (Nat.le_refl _)) HL.out).mono ?_
  rintro e w12 ⟨u12, rfl, o12, -, b⟩
  replace V := V.below b
  replace G := G.below b
  replace o10 := o10.below b (Nat.le_refl _)
  replace t := nxt t b
  replace T := nxt T b
  replace Z3 := Nat.le_trans Z3 b.size
  clear b
  go_wp2_with fail
  refine (implMakePuzzle_any _ xs m s _ o12.sv HL.out).mono ?_
  rintro e w13 ⟨u13, rfl, o13, b⟩
  clear o12
  replace V := V.below b
  replace G := G.below b
  replace o10 := o10.below b (Nat.le_refl _)
  replace t := nxt t b
  replace T := nxt T b
  replace Z3 := Nat.le_trans Z3 b.size
  clear b
  obtain ⟨p13, c13, rfl⟩ := o13.shape
  obtain ⟨W13, eW13⟩ : ∃ W13, w13.alloc (.cells #[.slice p13 (mkR xs m s).length c13] 39) = W13 := ⟨_, rfl⟩
  have b : Below w13.heap.size w13 W13 := by rw [← eW13]; exact (Below.refl _ _).alloc (Nat.le_refl _) _
  have G13 : Bx W13 w13.heap.size (.slice p13 (mkR xs m s).length c13) := by rw [← eW13]; exact bx_new _ _ _
  replace V := V.below b
  replace G := G.below b
  replace o10 := o10.below b (Nat.le_refl _)
  replace o13 := o13.below b (Nat.le_refl _)
  replace t := nxt t b
  replace T := nxt T b
  replace Z3 := Nat.le_trans Z3 b.size
  clear b
  have cG13 := G13.cell
  have cV := V.cell
  go_wp2_with fail
  clear cG13 cV eW13
  refine (eqPuzzle_yes _ _ _ _ _ o13.cv (S2.out.below T (Nat.le_refl _)) rfl HR.out).mono ?_
  rintro e w14 ⟨rfl, b⟩
  replace V := V.below b
  replace G := G.below b
  replace o10 := o10.below b (Nat.le_refl _)
  replace o13 := o13.below b (Nat.le_refl _)
  replace G13 := G13.below b
  replace t := nxt t b
  replace T := nxt T b
  replace Z3 := Nat.le_trans Z3 b.size
  clear b
  clear o13 G13
  have cG := G.cell
  go_wp2_with fail
  clear cG
  refine (heldPuzzle_any _ (mkR xs m s).length 1 _ o10.cv HRm.out (by omega) (by omega)).mono ?_
  rintro e w15 ⟨rfl, b⟩
  replace V := V.below b
  replace G := G.below b
  replace o10 := o10.below b (Nat.le_refl _)
  replace t := nxt t b
  replace T := nxt T b
  replace Z3 := Nat.le_trans Z3 b.size
  clear b
  go_wp2_with fail
  go_ret
  exact ⟨rfl, t⟩

end Go.Proofs.Ytphjiicdodkfbaa
