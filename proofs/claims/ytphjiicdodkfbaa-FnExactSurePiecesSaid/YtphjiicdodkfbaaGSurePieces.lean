/-
  The law on SurePieces, walked: whatever comes in, it returns true and writes nothing that was there. No condition.
-/
import Derived.Test.YtphjiicdodkfbaaYsp
import Derived.Test.YtphjiicdodkfbaaYlw
import Derived.Deep.RegionHeld3
import Derived.Deep.CutRange
namespace Go.Proofs.Ytphjiicdodkfbaa
open Go.RowKit

set_option maxHeartbeats 8000000 in
theorem lawSurePieces (v : Value) (cs : List Cl) (w : World) (hv : Cv w v cs) :
    Calls Try.prog 10 #[.agg #[v]] w fun e w' => e = .returned (.bool true) ∧ Below w.heap.size w w' := by
  obtain ⟨p, cap, rfl⟩ := hv.shape
  obtain ⟨W, eW⟩ : ∃ W, w.alloc (.cells #[.slice p cs.length cap] 34) = W := ⟨_, rfl⟩
  have hb0 : Below w.heap.size w W := by rw [← eW]; exact (Below.refl _ _).alloc (Nat.le_refl _) _
  have A : Bx W w.heap.size (.slice p cs.length cap) := by rw [← eW]; exact bx_new _ _ _
  have ZA : w.heap.size < W.heap.size := A.lt
  have HS := Lib.hid (hv.below hb0 (Nat.le_refl _))
  have SZ := Lib.hid (szPuzzle_any _ cs 1048576 W HS.out HS.out.len (by omega) (by omega))
  clear hv
  by_cases hbig : (1048576 : Int) < cs.length
  · rw [if_pos hbig] at SZ
    have cA := A.cell
    clear hbig
    go_enter Try.func10, Try.ntmps10
    go_wp2_with fail
    clear eW cA
    refine SZ.out.mono ?_
    rintro e w0 ⟨rfl, b⟩
    go_wp2_with fail
    go_ret
    exact ⟨rfl, nxt hb0 b⟩
  rw [if_neg hbig] at SZ
  have HL : Hid (cs.length ≤ 1048576) := Lib.hid (by omega)
  have HL2 : Hid (cs.length ≤ 1099511627776) := Lib.hid (by omega)
  obtain ⟨r, er⟩ : ∃ r : Int, 1048576 - (cs.length : Int) = r := ⟨_, rfl⟩
  rw [er] at SZ
  have dr : decide (r < 0) = false := by simp; omega
  clear er hbig
  have cA := A.cell
  go_enter Try.func10, Try.ntmps10
  go_wp2_with fail
  clear eW cA
  refine SZ.out.mono ?_
  rintro e w0 ⟨rfl, t⟩
  clear SZ
  replace A := A.below t
  have cA := A.cell
  go_wp2_with fail
  clear cA dr
  refine (toPuzzle_any _ cs _ (HS.out.below t (Nat.le_refl _)) HL2.out).mono ?_
  rintro e w1 ⟨u1, g1, rfl, o1, -, b⟩
  replace A := A.below b
  replace t := nxt t b
  clear b
  go_wp2_with fail
  refine (specSurePieces_any _ cs _ o1.cv HL2.out).mono ?_
  rintro e w2 ⟨v2, rfl, s2, b⟩
  clear o1
  replace A := A.below b
  replace t := nxt t b
  clear b
  have HR := Lib.hid (sp_bd cs)
  have S2 := Lib.hid s2.sv
  clear s2
  have ZT : W.heap.size ≤ w2.heap.size := t.size
  have T : Below w2.heap.size w2 w2 := Below.refl _ _
  have ZA2 : w.heap.size < w2.heap.size := A.lt
  have cA := A.cell
  go_wp2_with fail
  clear cA
  refine (toPuzzle_any _ cs _ (HS.out.below t (Nat.le_refl _)) HL2.out).mono ?_
  rintro e w3 ⟨u3, g3, rfl, X, -, b⟩
  replace A := A.below b
  replace t := nxt t b
  replace T := nxt T b
  clear b
  obtain ⟨p3, c3, rfl⟩ := X.shape
  obtain ⟨W3, eW3⟩ : ∃ W3, w3.alloc (.cells #[.slice p3 cs.length c3] 39) = W3 := ⟨_, rfl⟩
  have b : Below w3.heap.size w3 W3 := by rw [← eW3]; exact (Below.refl _ _).alloc (Nat.le_refl _) _
  have BX : Bx W3 w3.heap.size (.slice p3 cs.length c3) := by rw [← eW3]; exact bx_new _ _ _
  have XB := X.lo b.size
  replace A := A.below b
  replace X := X.below b (Nat.le_refl _)
  replace t := nxt t b
  replace T := nxt T b
  clear b
  have ZT3 : w2.heap.size ≤ W3.heap.size := T.size
  have cBX := BX.cell
  go_wp2_with fail
  clear cBX eW3
  refine (implSurePieces_any _ cs _ X.cv HL2.out).mono ?_
  rintro e w4 ⟨u4, rfl, o4, b⟩
  have Z3 := b.size
  have Z34 := b.size
  replace A := A.below b
  replace X := X.below b (Nat.le_refl _)
  replace BX := BX.below b
  replace t := nxt t b
  replace T := nxt T b
  clear b
  go_wp2_with fail
  refine (eqIntS_yes _ _ _ _ _ o4.sv (S2.out.below T (Nat.le_refl _)) rfl HR.out).mono ?_
  rintro e w5 ⟨rfl, b⟩
  replace A := A.below b
  replace X := X.below b (Nat.le_refl _)
  replace BX := BX.below b
  replace o4 := o4.below b (Nat.le_refl _)
  replace t := nxt t b
  replace T := nxt T b
  replace Z3 := Nat.le_trans Z3 b.size
  clear b
  have SA := fun (W' : World) (h : Below w5.heap.size w5 W') => Lib.hid (s_two BX A h)
  have KX := Lib.hid X.cv
  have HT := Lib.hid t
  have cBX := BX.cell
  have cA := A.cell
  go_upto_region 10 with (fail)
  clear cBX cA
  go_region_held3 (fun w' => w'.cell? ⟨w3.heap.size, 0, none⟩ = some (.slice p3 cs.length c3) ∧ w'.cell? ⟨w.heap.size, 0, none⟩ = some (.slice p cs.length cap) ∧ Below w5.heap.size w5 w') ((first | assumption | exact (SA _ (below_drewN (Below.refl _ _) 1)).out | exact (SA _ (Below.refl _ _)).out | exact SB.out | exact SC.out)) ((first
    | (go_at_call 28; refine (toPuzzle_any _ cs _ (HS.out.below (nxt HT.out (s_bel w3.heap.size w.heap.size (.slice p3 cs.length c3) (.slice p cs.length cap) (by assumption))) (Nat.le_refl _)) HL2.out).mono ?_; rintro e w6 ⟨u6, g6, rfl, o6, -, b6⟩; obtain ⟨p6, c6, rfl⟩ := o6.shape; have SB := SA w6 (nxt (s_bel w3.heap.size w.heap.size (.slice p3 cs.length c3) (.slice p cs.length cap) (by assumption)) b6); have O6 := Lib.hid o6.cv; clear o6 b6)
    | (go_at_call 30; refine (eqPuzzle_yes _ _ _ _ _ (KX.out.below SB.out.2.2 (Nat.le_refl _)) O6.out rfl HL2.out).mono ?_; rintro e w7 ⟨rfl, b7⟩; have SC := SA w7 (nxt SB.out.2.2 b7); clear b7)))
  have b := SC.out.2.2
  clear SA SB SC KX O6 HT
  replace A := A.below b
  replace X := X.below b (Nat.le_refl _)
  replace BX := BX.below b
  replace o4 := o4.below b (Nat.le_refl _)
  replace t := nxt t b
  replace T := nxt T b
  replace Z3 := Nat.le_trans Z3 b.size
  clear b
  have d1 : decide (1 + 3 * (cs.length : Int) < 0) = false := by simp; omega
  have cBX := BX.cell
  go_wp2_with fail
  clear cBX
  refine (markPuzzle_any _ cs _ 1 _ X HL.out (by omega) (by omega)).mono ?_
  rintro e w8 ⟨rfl, -, g8⟩
  have m8 := mid_row g8 XB
  clear X BX g8 XB
  have zT := T.size
  replace A := A.mid m8 (.inl (by omega))
  replace o4 := o4.midO m8 (Nat.le_refl _)
  have b := (m8.below (by have := T.size; omega))
  replace Z3 := Nat.le_trans Z3 m8.size
  replace T := T.trans (b.mono (by omega))
  replace t := t.trans (b.mono (by omega))
  clear b m8
  go_wp2_with fail
  refine (eqIntS_yes _ _ _ _ _ o4.sv (S2.out.below T (Nat.le_refl _)) rfl HR.out).mono ?_
  rintro e w9 ⟨rfl, b⟩
  replace A := A.below b
  replace o4 := o4.below b (Nat.le_refl _)
  replace t := nxt t b
  replace T := nxt T b
  replace Z3 := Nat.le_trans Z3 b.size
  clear b
  go_wp2_with fail
  have zT := T.size
  refine (markIntS_any _ (spR cs) _ 1 _ o4 HR.out (by omega) (by omega)).mono ?_
  rintro e w10 ⟨rfl, o10, g10⟩
  have m10 := mid_row g10 (fun g hg => ⟨(World.ownsRow.lt o4 g hg).1, (World.ownsRow.lt o4 g hg).2⟩)
  clear g10 o4
  replace A := A.mid m10 (.inl (by omega))
  have b := (m10.below (by have := T.size; omega))
  replace Z3 := Nat.le_trans Z3 m10.size
  replace T := T.trans (b.mono (by omega))
  replace t := t.trans (b.mono (by omega))
  clear b m10
  have d2 : decide (1 + ((spR cs).length : Int) < 0) = false := by simp; omega
  go_wp2_with fail
  refine (heldIntS_any _ (spR cs).length 1 _ o10.sv HR.out (by omega) (by omega)).mono ?_
  rintro e w11 ⟨rfl, rfl⟩
  have cA := A.cell
  go_wp2_with fail
  clear cA
  refine (toPuzzle_any _ cs _ (HS.out.below t (Nat.le_refl _)) HL2.out).mono ?_
  rintro e w12 ⟨u12, g12, rfl, o12, -, b⟩
  replace A := A.below b
  replace o10 := o10.below b (Nat.le_refl _)
  replace t := nxt t b
  replace T := nxt T b
  replace Z3 := Nat.le_trans Z3 b.size
  clear b
  go_wp2_with fail
  refine (implSurePieces_any _ cs _ o12.cv HL2.out).mono ?_
  rintro e w13 ⟨u13, rfl, o13, b⟩
  clear o12
  replace A := A.below b
  replace o10 := o10.below b (Nat.le_refl _)
  replace t := nxt t b
  replace T := nxt T b
  replace Z3 := Nat.le_trans Z3 b.size
  clear b
  go_wp2_with fail
  refine (eqIntS_yes _ _ _ _ _ o13.sv (S2.out.below T (Nat.le_refl _)) rfl HR.out).mono ?_
  rintro e w14 ⟨rfl, b⟩
  replace A := A.below b
  replace o10 := o10.below b (Nat.le_refl _)
  replace o13 := o13.below b (Nat.le_refl _)
  replace t := nxt t b
  replace T := nxt T b
  replace Z3 := Nat.le_trans Z3 b.size
  clear b
  clear o13
  go_wp2_with fail
  refine (heldIntS_any _ (spR cs).length 1 _ o10.sv HR.out (by omega) (by omega)).mono ?_
  rintro e w15 ⟨rfl, rfl⟩
  go_wp2_with fail
  go_ret
  exact ⟨rfl, nxt hb0 t⟩

end Go.Proofs.Ytphjiicdodkfbaa
