/-
  The law on CardsText, walked: whatever comes in, it returns true and writes nothing that was there. Conditions: lengths that fit int; the library's table of powers of ten is as it was laid.
-/
import Derived.Test.YtgojlabkngnkdaaDoorKci
import Derived.Deep.RegionHeld3
import Derived.Deep.CutRange
namespace Go.Proofs.YtgojlabkngnkdaaDoor
open Go.RowKit

set_option maxHeartbeats 8000000 in
theorem lawCardsText (n : Int) (v : Value) (Ls : List (List Int)) (w : World) (hv : Svv w v Ls) (hn : Ls.length ≤ 9223372036854775807) (hx : ∀ j, j < Ls.length → (rowL Ls j).length ≤ 9223372036854775807) (ht : Ten w) :
    Calls Tryd.prog 3 #[.agg #[.int .i64 n, v]] w fun e w' => e = .returned (.bool true) ∧ Below w.heap.size w w' := by
  obtain ⟨p, cap, rfl⟩ := svv_form hv
  obtain ⟨W, eW⟩ : ∃ W, w.alloc (.cells #[.int .i64 n, .slice p Ls.length cap] 24) = W := ⟨_, rfl⟩
  have hb0 : Below w.heap.size w W := by rw [← eW]; exact (Below.refl _ _).alloc (Nat.le_refl _) _
  have C0 := Lib.hid (show W.cell? ⟨w.heap.size, 0, none⟩ = some (.int .i64 n) by rw [← eW]; exact lcard_n w n _)
  have C1 := Lib.hid (show W.cell? ⟨w.heap.size, 1, none⟩ = some (.slice p Ls.length cap) by rw [← eW]; exact lcard_v w n _)
  have ZW : Hid (w.heap.size < W.heap.size) := Lib.hid (by rw [← eW]; simp)
  have HTEN := Lib.hid (fun W' (hW : Below w.heap.size w W') => ht.below hW (Nat.le_refl _))
  clear ht
  have hv := hv.below hb0 (Nat.le_refl _)
  have SZ := Lib.hid (szCards_any n _ Ls W hv hn hx)
  have HS := Lib.hid hv
  clear hv hn hx
  have c0 := C0.out
  have c1 := C1.out
  go_enter Tryd.func3, Tryd.ntmps3
  go_wp2_with fail
  clear eW c0 c1
  refine SZ.out.mono ?_
  rintro e w0 ⟨⟨r, rfl, hr⟩, t0⟩
  clear SZ
  by_cases hneg : r < 0
  · clear hr
    go_wp2_with fail
    go_ret
    exact ⟨rfl, nxt hb0 t0⟩
  have HF : Hid (Few2 Ls) := Lib.hid (by rcases hr with h | h; exact absurd h hneg; exact h.2)
  have HL : Hid (Ls.length ≤ 1099511627776) := Lib.hid (by have := HF.out; unfold Few2 at this; omega)
  have HX : Hid (∀ j, j < Ls.length → (rowL Ls j).length ≤ 1099511627776) := Lib.hid (fun j hj => by have := HF.out.row hj; omega)
  clear hr
  have d0 := (t0.cell (p := ⟨w.heap.size, 0, none⟩) ZW.out).trans C0.out
  have d1 := (t0.cell (p := ⟨w.heap.size, 1, none⟩) ZW.out).trans C1.out
  go_wp2_with fail
  refine (toCards_any n _ Ls _ (HS.out.below t0 (Nat.le_refl _)) HF.out).mono ?_
  clear d0 d1
  rintro e w1 ⟨u1, rfl, o1, b1⟩
  have t1 := nxt t0 b1
  go_wp2_with fail
  refine (specCT_any n u1 Ls _ o1.svv HL.out HX.out).mono ?_
  rintro e w2 ⟨rfl, b2⟩
  have t2 := nxt t1 b2
  clear o1 t1 b2 b1 t0
  have d0 := (t2.cell (p := ⟨w.heap.size, 0, none⟩) ZW.out).trans C0.out
  have d1 := (t2.cell (p := ⟨w.heap.size, 1, none⟩) ZW.out).trans C1.out
  go_wp2_with fail
  refine (toCards_any n _ Ls _ (HS.out.below t2 (Nat.le_refl _)) HF.out).mono ?_
  clear d0 d1
  rintro e w3 ⟨u3, rfl, X, b3⟩
  obtain ⟨p3, c3, rfl⟩ := svv_form X.svv
  obtain ⟨W3, eW3⟩ : ∃ W3, w3.alloc (.cells #[.int .i64 n, .slice p3 Ls.length c3] 28) = W3 := ⟨_, rfl⟩
  have bb3 : Below w3.heap.size w3 W3 := by rw [← eW3]; exact (Below.refl _ _).alloc (Nat.le_refl _) _
  have X0 := show W3.cell? ⟨w3.heap.size, 0, none⟩ = some (.int .i64 n) by rw [← eW3]; exact card_n w3 _ _
  have X1 := show W3.cell? ⟨w3.heap.size, 1, none⟩ = some (.slice p3 Ls.length c3) by rw [← eW3]; exact card_v w3 _ _
  have ZX : Hid (w3.heap.size < W3.heap.size) := Lib.hid (by rw [← eW3]; simp)
  have X := X.below bb3 (Nat.le_refl _)
  have T3 := nxt b3 bb3
  have t3 := nxt t2 T3
  have zx : Hid (w2.heap.size ≤ w3.heap.size) := Lib.hid b3.size
  have XH0 := Lib.hid X0
  have XH1 := Lib.hid X1
  clear b3 bb3
  go_wp2_with fail
  clear eW3
  refine (implCT_any n (.slice p3 Ls.length c3) Ls _ X.svv HL.out HX.out (HTEN.out _ (nxt hb0 t3))).mono ?_
  rintro e w4 ⟨rfl, b4⟩
  clear X0 X1
  have X := X.below b4 (Nat.le_refl _)
  have K3 := b4
  have t4 := nxt t3 b4
  clear b4 t3 T3
  have d0 := (t4.cell (p := ⟨w.heap.size, 0, none⟩) ZW.out).trans C0.out
  have d1 := (t4.cell (p := ⟨w.heap.size, 1, none⟩) ZW.out).trans C1.out
  have SA := fun (W' : World) => two_at (W' := W') (Nat.lt_of_lt_of_le ZX.out K3.size) (Nat.lt_of_lt_of_le ZW.out t4.size) ((K3.cell (p := ⟨w3.heap.size, 0, none⟩) ZX.out).trans XH0.out) ((K3.cell (p := ⟨w3.heap.size, 1, none⟩) ZX.out).trans XH1.out) d0 d1
  have KX := Lib.hid X
  have SA := fun (W' : World) h => Lib.hid (SA W' h)
  have HCUR := Lib.hid t4
  have x0 := (SA _ (Below.refl _ _)).out.1
  have x1 := (SA _ (Below.refl _ _)).out.2.1
  clear X
  go_upto_region 10 with (fail)
  have SD : Hid (w4.drew.cell? ⟨w3.heap.size, 0, none⟩ = some (.int .i64 n)) := Lib.hid x0
  clear SD x0 x1 d0 d1
  go_region_held3 (fun w' => w'.cell? ⟨w3.heap.size, 0, none⟩ = some (.int .i64 n) ∧ w'.cell? ⟨w3.heap.size, 1, none⟩ = some (.slice p3 Ls.length c3) ∧ w'.cell? ⟨w.heap.size, 0, none⟩ = some (.int .i64 n) ∧ w'.cell? ⟨w.heap.size, 1, none⟩ = some (.slice p Ls.length cap) ∧ Below w4.heap.size w4 w') ((first | assumption | exact (SA _ (below_drewN (Below.refl _ _) 1)).out | exact SB.out | exact SC.out)) ((first
    | (go_at_call 9; refine (toCards_any n _ Ls _ (HS.out.below (nxt HCUR.out (two_bel w3.heap.size w.heap.size (.int .i64 n) (.slice p3 Ls.length c3) (.int .i64 n) (.slice p Ls.length cap) (by assumption))) (Nat.le_refl _)) HF.out).mono ?_; rintro e w6 ⟨u6, rfl, o6, b6⟩; obtain ⟨p6, c6, rfl⟩ := svv_form o6.svv; have SB := SA w6 (nxt (two_bel w3.heap.size w.heap.size (.int .i64 n) (.slice p3 Ls.length c3) (.int .i64 n) (.slice p Ls.length cap) (by assumption)) b6); have O6 := Lib.hid o6.svv; clear o6 b6)
    | (go_at_call 11; refine (eqCards_yes _ _ _ _ _ (KX.out.svv.below SB.out.2.2.2.2 (Nat.le_refl _)) O6.out HF.out).mono ?_; rintro e w7 ⟨rfl, b7⟩; have SC := SA w7 (nxt SB.out.2.2.2.2 b7); clear b7)))
  have b7 := SC.out.2.2.2.2
  have X := KX.out
  clear SA SB SC KX O6 HCUR
  have X := X.below b7 (Nat.le_refl _)
  have K3 := nxt K3 b7
  have t7 := nxt t4 b7
  clear b7 t4
  clear X K3
  go_wp2_with fail
  go_ret
  exact ⟨rfl, nxt hb0 t7⟩

end Go.Proofs.YtgojlabkngnkdaaDoor
