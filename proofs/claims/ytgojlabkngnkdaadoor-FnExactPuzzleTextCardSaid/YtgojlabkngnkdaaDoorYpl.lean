/-
  The law on PuzzleText, walked: whatever comes in, it returns true and writes nothing that was there. Condition: the library's table of powers of ten is as it was laid.
-/
import Derived.Test.YtgojlabkngnkdaaDoorYpi
namespace Go.Proofs.YtgojlabkngnkdaaDoor
open Go.RowKit

set_option maxHeartbeats 8000000 in
theorem lawPuzzleText (v : Value) (cs : List Cl) (w : World) (hv : Cv w v cs) (ht : Ten w) :
    Calls Tryd.prog 5 #[.agg #[v]] w fun e w' => e = .returned (.bool true) ∧ Below w.heap.size w w' := by
  obtain ⟨p, cap, rfl⟩ := hv.shape
  obtain ⟨W, eW⟩ : ∃ W, w.alloc (.cells #[.slice p cs.length cap] 38) = W := ⟨_, rfl⟩
  have hb0 : Below w.heap.size w W := by rw [← eW]; exact (Below.refl _ _).alloc (Nat.le_refl _) _
  have A : Bx W w.heap.size (.slice p cs.length cap) := by rw [← eW]; exact bx_new _ _ _
  have HS := Lib.hid (hv.below hb0 (Nat.le_refl _))
  have SZ := Lib.hid (szPuzzle_any _ cs 1048576 W HS.out HS.out.len (by omega) (by omega))
  have HT := Lib.hid (fun W' (hW : Below w.heap.size w W') => ht.below hW (Nat.le_refl _))
  clear hv ht
  by_cases hbig : (1048576 : Int) < cs.length
  · rw [if_pos hbig] at SZ
    have cA := A.cell
    clear hbig
    go_enter Tryd.func5, Tryd.ntmps5
    go_wp2_with fail
    clear eW cA
    refine SZ.out.mono ?_
    rintro e w0 ⟨rfl, b⟩
    go_wp2_with fail
    go_ret
    exact ⟨rfl, nxt hb0 b⟩
  rw [if_neg hbig] at SZ
  have HL2 : Hid (cs.length ≤ 1099511627776) := Lib.hid (by omega)
  obtain ⟨r, er⟩ : ∃ r : Int, 1048576 - (cs.length : Int) = r := ⟨_, rfl⟩
  rw [er] at SZ
  have dr : decide (r < 0) = false := by simp; omega
  clear er hbig
  have cA := A.cell
  go_enter Tryd.func5, Tryd.ntmps5
  go_wp2_with fail
  clear eW cA
  refine SZ.out.mono ?_
  rintro e w0 ⟨rfl, t⟩
  clear SZ
  replace A := A.below t
  have cA := A.cell
  go_wp2_with fail
  clear cA dr
  refine (toPuzzle_any _ cs _ (HS.out.below t (Nat.le_refl _)) HL2.out).mono ?_
  rintro e w1 ⟨y1, g1, rfl, o1, -, b⟩
  replace A := A.below b
  replace t := nxt t b
  clear b
  go_wp2_with fail
  refine (specPT_any _ cs _ o1.cv HL2.out).mono ?_
  rintro e w2 ⟨rfl, b⟩
  clear o1
  replace A := A.below b
  replace t := nxt t b
  clear b
  have cA := A.cell
  go_wp2_with fail
  clear cA
  refine (toPuzzle_any _ cs _ (HS.out.below t (Nat.le_refl _)) HL2.out).mono ?_
  rintro e w3 ⟨y3, g3, rfl, X, -, b⟩
  replace A := A.below b
  replace t := nxt t b
  clear b
  obtain ⟨p3, c3, rfl⟩ := X.shape
  obtain ⟨W3, eW3⟩ : ∃ W3, w3.alloc (.cells #[.slice p3 cs.length c3] 43) = W3 := ⟨_, rfl⟩
  have b : Below w3.heap.size w3 W3 := by rw [← eW3]; exact (Below.refl _ _).alloc (Nat.le_refl _) _
  have BX : Bx W3 w3.heap.size (.slice p3 cs.length c3) := by rw [← eW3]; exact bx_new _ _ _
  replace X := X.below b (Nat.le_refl _)
  replace A := A.below b
  replace t := nxt t b
  clear b
  have cBX := BX.cell
  go_wp2_with fail
  clear cBX eW3
  refine (implPT_any _ cs _ X.cv HL2.out (HT.out _ (nxt hb0 t))).mono ?_
  rintro e w5 ⟨rfl, b⟩
  replace X := X.below b (Nat.le_refl _)
  replace A := A.below b
  replace BX := BX.below b
  replace t := nxt t b
  clear b
  have SA := fun (W' : World) (h : Below w5.heap.size w5 W') => Lib.hid (s_two BX A h)
  have KX := Lib.hid X.cv
  have HTT := Lib.hid t
  have cBX := BX.cell
  have cA := A.cell
  go_upto_region 10 with (fail)
  clear cBX cA
  go_region_held3 (fun w' => w'.cell? ⟨w3.heap.size, 0, none⟩ = some (.slice p3 cs.length c3) ∧ w'.cell? ⟨w.heap.size, 0, none⟩ = some (.slice p cs.length cap) ∧ Below w5.heap.size w5 w') ((first | assumption | exact (SA _ (below_drewN (Below.refl _ _) 1)).out | exact (SA _ (Below.refl _ _)).out | exact SB.out | exact SC.out)) ((first
    | (go_at_call 18; refine (toPuzzle_any _ cs _ (HS.out.below (nxt HTT.out (s_bel w3.heap.size w.heap.size (.slice p3 cs.length c3) (.slice p cs.length cap) (by assumption))) (Nat.le_refl _)) HL2.out).mono ?_; rintro e w6 ⟨y6, g6, rfl, o6, -, b6⟩; obtain ⟨p6, c6, rfl⟩ := o6.shape; have SB := SA w6 (nxt (s_bel w3.heap.size w.heap.size (.slice p3 cs.length c3) (.slice p cs.length cap) (by assumption)) b6); have O6 := Lib.hid o6.cv; clear o6 b6)
    | (go_at_call 20; refine (eqPuzzle_yes _ _ _ _ _ (KX.out.below SB.out.2.2 (Nat.le_refl _)) O6.out rfl HL2.out).mono ?_; rintro e w7 ⟨rfl, b7⟩; have SC := SA w7 (nxt SB.out.2.2 b7); clear b7)))
  have b := SC.out.2.2
  clear SA SB SC KX O6
  go_wp2_with fail
  go_ret
  exact ⟨rfl, nxt hb0 (nxt t b)⟩
end Go.Proofs.YtgojlabkngnkdaaDoor
