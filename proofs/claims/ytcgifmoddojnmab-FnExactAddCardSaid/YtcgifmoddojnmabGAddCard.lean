/-
  The law on AddCard, walked: whatever comes in, it returns true and writes nothing that was there. No condition but lengths that fit int.
-/
import Derived.Test.YtcgifmoddojnmabQfa
import Derived.Test.YtcgifmoddojnmabQr
import Derived.Test.YtcgifmoddojnmabQmi
import Derived.Deep.RegionHeld3
import Derived.Deep.CutRange
namespace Go.Proofs.Ytcgifmoddojnmab
open Go.RowKit

set_option maxHeartbeats 8000000 in
theorem lawAddCard (n : Int) (v : Value) (Ls : List (List Int)) (y1 : Value) (ys1 : List Int) (w : World) (hv : Svv w v Ls) (hn : Ls.length ≤ 9223372036854775807) (hx : ∀ j, j < Ls.length → (rowL Ls j).length ≤ 9223372036854775807) (k1 : Sv w y1 ys1) :
    Calls Try.prog 5 #[.agg #[.int .i64 n, v], y1] w fun e w' => e = .returned (.bool true) ∧ Below w.heap.size w w' := by
  obtain ⟨p, cap, rfl⟩ := svv_form hv
  obtain ⟨py1, cy1, rfl⟩ : ∃ p c, y1 = .slice p ys1.length c := by obtain ⟨p, c, h, _⟩ := k1; exact ⟨p, c, h⟩
  by_cases hbig : 1048576 < ys1.length
  · clear k1
    go_enter Try.func5, Try.ntmps5
    go_wp2
    go_ret
    exact ⟨rfl, (Below.refl _ _).alloc (Nat.le_refl _) _⟩
  have yl1 : ys1.length ≤ 1099511627776 := by omega
  obtain ⟨W, eW⟩ : ∃ W, w.alloc (.cells #[.int .i64 n, .slice p Ls.length cap] 30) = W := ⟨_, rfl⟩
  have hb0 : Below w.heap.size w W := by rw [← eW]; exact (Below.refl _ _).alloc (Nat.le_refl _) _
  have C0 := Lib.hid (show W.cell? ⟨w.heap.size, 0, none⟩ = some (.int .i64 n) by rw [← eW]; exact lcard_n w n _)
  have C1 := Lib.hid (show W.cell? ⟨w.heap.size, 1, none⟩ = some (.slice p Ls.length cap) by rw [← eW]; exact lcard_v w n _)
  have ZW : Hid (w.heap.size < W.heap.size) := Lib.hid (by rw [← eW]; simp)
  have hv := hv.below hb0 (Nat.le_refl _)
  have SZ := Lib.hid (szCards_any n _ Ls W hv hn hx)
  have HS := Lib.hid hv
  clear hv hn hx
  have K1 := Lib.hid (k1.below hb0 (Nat.le_refl _))
  clear k1
  have c0 := C0.out
  have c1 := C1.out
  go_enter Try.func5, Try.ntmps5
  go_wp2_with fail
  clear eW c0 c1
  refine SZ.out.mono ?_
  rintro e w0 ⟨⟨r, rfl, hr⟩, t0⟩
  clear SZ
  by_cases hneg : r < 0
  · clear hr
    go_wp2_with fail
    go_ret
    exact ⟨rfl, nxt hb0 t0⟩
  have HF : Hid (Few2 Ls) := Lib.hid (by rcases hr with h | h; exact absurd h hneg; exact h.2)
  have HL : Hid (Ls.length ≤ 1099511627776) := Lib.hid (by have := HF.out; unfold Few2 at this; omega)
  have HX : Hid (∀ j, j < Ls.length → (rowL Ls j).length ≤ 1099511627776) := Lib.hid (fun j hj => by have := HF.out.row hj; omega)
  clear hr
  have HFR : Hid (Few2 (acR n Ls ys1)) := Lib.hid ((acR_few n Ls ys1))
  have HN := Lib.hid (HFR.out.len)
  have HT := Lib.hid (HFR.out.tot)
  have d0 := (t0.cell (p := ⟨w.heap.size, 0, none⟩) ZW.out).trans C0.out
  have d1 := (t0.cell (p := ⟨w.heap.size, 1, none⟩) ZW.out).trans C1.out
  go_wp2_with fail
  refine (toCards_any n _ Ls _ (HS.out.below t0 (Nat.le_refl _)) HF.out).mono ?_
  clear d0 d1
  rintro e w1 ⟨u1, rfl, o1, b1⟩
  have t1 := nxt t0 b1
  go_wp2_with fail
  refine (toIntS_any _ _ _ (K1.out.below t1 (Nat.le_refl _)) yl1).mono ?_
  rintro e w1s ⟨z1, rfl, q1, q1a, b1s⟩
  have o1 := o1.below b1s (Nat.le_refl _)
  have q1S := q1.sp q1a
  have t1 := nxt t1 b1s
  go_wp2_with fail
  refine (specAddCard_any n u1 z1 Ls ys1 _ o1.srcL HL.out HX.out q1S.src yl1).mono ?_
  rintro e w2 ⟨v2, rfl, s2, b2⟩
  have t2 := nxt t1 b2
  clear o1 t1 b2 q1S q1 q1a b1s b1 t0
  have S2 := Lib.hid s2
  obtain ⟨p2, c2, rfl⟩ := svv_form s2
  clear s2
  obtain ⟨W2, eW2⟩ : ∃ W2, w2.alloc (.cells #[.int .i64 (acN n Ls ys1), .slice p2 (acR n Ls ys1).length c2] 24) = W2 := ⟨_, rfl⟩
  have bb2 : Below w2.heap.size w2 W2 := by rw [← eW2]; exact (Below.refl _ _).alloc (Nat.le_refl _) _
  have V0 := Lib.hid (show W2.cell? ⟨w2.heap.size, 0, none⟩ = some (.int .i64 (acN n Ls ys1)) by rw [← eW2]; exact card_n w2 _ _)
  have V1 := Lib.hid (show W2.cell? ⟨w2.heap.size, 1, none⟩ = some (.slice p2 (acR n Ls ys1).length c2) by rw [← eW2]; exact card_v w2 _ _)
  have ZV : Hid (w2.heap.size < W2.heap.size) := Lib.hid (by rw [← eW2]; simp)
  have S2 := Lib.hid (S2.out.below bb2 (Nat.le_refl _))
  have t2 := nxt t2 bb2
  clear bb2
  have d0 := (t2.cell (p := ⟨w.heap.size, 0, none⟩) ZW.out).trans C0.out
  have d1 := (t2.cell (p := ⟨w.heap.size, 1, none⟩) ZW.out).trans C1.out
  go_wp2_with fail
  clear eW2
  refine (toCards_any n _ Ls _ (HS.out.below t2 (Nat.le_refl _)) HF.out).mono ?_
  clear d0 d1
  rintro e w3 ⟨u3, rfl, X, b3⟩
  obtain ⟨p3, c3, rfl⟩ := svv_form X.svv
  obtain ⟨W3, eW3⟩ : ∃ W3, w3.alloc (.cells #[.int .i64 n, .slice p3 Ls.length c3] 24) = W3 := ⟨_, rfl⟩
  have bb3 : Below w3.heap.size w3 W3 := by rw [← eW3]; exact (Below.refl _ _).alloc (Nat.le_refl _) _
  have X0 := show W3.cell? ⟨w3.heap.size, 0, none⟩ = some (.int .i64 n) by rw [← eW3]; exact card_n w3 _ _
  have X1 := show W3.cell? ⟨w3.heap.size, 1, none⟩ = some (.slice p3 Ls.length c3) by rw [← eW3]; exact card_v w3 _ _
  have ZX : Hid (w3.heap.size < W3.heap.size) := Lib.hid (by rw [← eW3]; simp)
  have X := X.below bb3 (Nat.le_refl _)
  have T3 := nxt b3 bb3
  have t3 := nxt t2 T3
  have zx : Hid (W2.heap.size ≤ w3.heap.size) := Lib.hid b3.size
  have XH0 := Lib.hid X0
  have XH1 := Lib.hid X1
  clear b3 bb3
  go_wp2_with fail
  refine (toIntS_any _ _ _ (K1.out.below t3 (Nat.le_refl _)) yl1).mono ?_
  rintro e w3s ⟨z3, rfl, q3, q3a, b3s⟩
  have X := X.below b3s (Nat.le_refl _)
  clear eW3
  have z3S := (q3.sp q3a).sv
  have q3b : Hid (z3.ownBlock = some W3.heap.size) := Lib.hid q3a
  have T3 := nxt T3 b3s
  have t3 := nxt t3 b3s
  have K3 := b3s
  have zs : Hid (W3.heap.size < w3s.heap.size) := Lib.hid (own_lt q3 q3a)
  have X0 := (b3s.cell (p := ⟨w3.heap.size, 0, none⟩) ZX.out).trans X0
  have X1 := (b3s.cell (p := ⟨w3.heap.size, 1, none⟩) ZX.out).trans X1
  clear b3s
  go_wp2_with fail
  refine (implAddCard_any n (.slice p3 Ls.length c3) Ls z3 ys1 _ X.svv HL.out HX.out z3S yl1).mono ?_
  rintro e w4 ⟨g4, rfl, o4, b4⟩
  clear X0 X1
  have X := X.below b4 (Nat.le_refl _)
  have q3 := q3.below b4 (Nat.le_refl _)
  have K3 := nxt K3 b4
  have t4 := nxt t3 b4
  have T4 := nxt T3 b4
  have zg : Hid (w3s.heap.size ≤ w4.heap.size) := Lib.hid b4.size
  clear b4 t3 T3 z3S
  obtain ⟨p4, c4, rfl⟩ := o4.form
  obtain ⟨W4, eW4⟩ : ∃ W4, w4.alloc (.cells #[.int .i64 (acN n Ls ys1), .slice p4 (acR n Ls ys1).length c4] 24) = W4 := ⟨_, rfl⟩
  have bb4 : Below w4.heap.size w4 W4 := by rw [← eW4]; exact (Below.refl _ _).alloc (Nat.le_refl _) _
  have G0 := show W4.cell? ⟨w4.heap.size, 0, none⟩ = some (.int .i64 (acN n Ls ys1)) by rw [← eW4]; exact card_n w4 _ _
  have G1 := show W4.cell? ⟨w4.heap.size, 1, none⟩ = some (.slice p4 (acR n Ls ys1).length c4) by rw [← eW4]; exact card_v w4 _ _
  have ZG : w4.heap.size < W4.heap.size := by rw [← eW4]; simp
  have o4 := o4.below bb4 (Nat.le_refl _)
  have t4 := nxt t4 bb4
  have T4 := nxt T4 bb4
  have X := X.below bb4 (Nat.le_refl _)
  have q3 := q3.below bb4 (Nat.le_refl _)
  have K3 := nxt K3 bb4
  clear bb4
  have e0 := (T4.cell (p := ⟨w2.heap.size, 0, none⟩) ZV.out).trans V0.out
  have e1 := (T4.cell (p := ⟨w2.heap.size, 1, none⟩) ZV.out).trans V1.out
  go_wp2_with fail
  clear eW4
  refine (eqCards_yes _ _ _ _ _ o4.svv (S2.out.below T4 (Nat.le_refl _)) HFR.out).mono ?_
  rintro e w5 ⟨rfl, b5⟩
  clear e0 e1
  have X := X.below b5 (Nat.le_refl _)
  have q3 := q3.below b5 (Nat.le_refl _)
  have o4 := o4.below b5 (Nat.le_refl _)
  have G0 := (b5.cell (p := ⟨w4.heap.size, 0, none⟩) ZG).trans G0
  have G1 := (b5.cell (p := ⟨w4.heap.size, 1, none⟩) ZG).trans G1
  have ZG := Nat.lt_of_lt_of_le ZG b5.size
  have K3 := nxt K3 b5
  have T5 := nxt T4 b5
  have t5 := nxt t4 b5
  clear b5 T4 t4
  have d0 := (t5.cell (p := ⟨w.heap.size, 0, none⟩) ZW.out).trans C0.out
  have d1 := (t5.cell (p := ⟨w.heap.size, 1, none⟩) ZW.out).trans C1.out
  have SA := fun (W' : World) => two_at (W' := W') (Nat.lt_of_lt_of_le ZX.out K3.size) (Nat.lt_of_lt_of_le ZW.out t5.size) ((K3.cell (p := ⟨w3.heap.size, 0, none⟩) ZX.out).trans XH0.out) ((K3.cell (p := ⟨w3.heap.size, 1, none⟩) ZX.out).trans XH1.out) d0 d1
  have KX := Lib.hid X
  have SA := fun (W' : World) h => Lib.hid (SA W' h)
  have HCUR := Lib.hid t5
  have x0 := (SA _ (Below.refl _ _)).out.1
  have x1 := (SA _ (Below.refl _ _)).out.2.1
  clear X
  go_upto_region 13 with (fail)
  have SD : Hid (w5.drew.cell? ⟨w3.heap.size, 0, none⟩ = some (.int .i64 n)) := Lib.hid x0
  clear SD x0 x1 d0 d1
  go_region_held3 (fun w' => w'.cell? ⟨w3.heap.size, 0, none⟩ = some (.int .i64 n) ∧ w'.cell? ⟨w3.heap.size, 1, none⟩ = some (.slice p3 Ls.length c3) ∧ w'.cell? ⟨w.heap.size, 0, none⟩ = some (.int .i64 n) ∧ w'.cell? ⟨w.heap.size, 1, none⟩ = some (.slice p Ls.length cap) ∧ Below w5.heap.size w5 w') ((first | assumption | exact (SA _ (below_drewN (Below.refl _ _) 1)).out | exact SB.out | exact SC.out)) ((first
    | (go_at_call 15; refine (toCards_any n _ Ls _ (HS.out.below (nxt HCUR.out (two_bel w3.heap.size w.heap.size (.int .i64 n) (.slice p3 Ls.length c3) (.int .i64 n) (.slice p Ls.length cap) (by assumption))) (Nat.le_refl _)) HF.out).mono ?_; rintro e w6 ⟨u6, rfl, o6, b6⟩; obtain ⟨p6, c6, rfl⟩ := svv_form o6.svv; have SB := SA w6 (nxt (two_bel w3.heap.size w.heap.size (.int .i64 n) (.slice p3 Ls.length c3) (.int .i64 n) (.slice p Ls.length cap) (by assumption)) b6); have O6 := Lib.hid o6.svv; clear o6 b6)
    | (go_at_call 8; refine (eqCards_yes _ _ _ _ _ (KX.out.svv.below SB.out.2.2.2.2 (Nat.le_refl _)) O6.out HF.out).mono ?_; rintro e w7 ⟨rfl, b7⟩; have SC := SA w7 (nxt SB.out.2.2.2.2 b7); clear b7)))
  have b7 := SC.out.2.2.2.2
  have X := KX.out
  clear SA SB SC KX O6 HCUR
  have X := X.below b7 (Nat.le_refl _)
  have q3 := q3.below b7 (Nat.le_refl _)
  have o4 := o4.below b7 (Nat.le_refl _)
  have G0 := (b7.cell (p := ⟨w4.heap.size, 0, none⟩) ZG).trans G0
  have G1 := (b7.cell (p := ⟨w4.heap.size, 1, none⟩) ZG).trans G1
  have ZG := Nat.lt_of_lt_of_le ZG b7.size
  have K3 := nxt K3 b7
  have T7 := nxt T5 b7
  have t7 := nxt t5 b7
  clear b7 T5 t5
  go_wp2_with fail
  refine (toIntS_any _ _ _ (K1.out.below t7 (Nat.le_refl _)) yl1).mono ?_
  rintro e w7s ⟨z7, rfl, q7, q7a, b7s⟩
  have X := X.below b7s (Nat.le_refl _)
  have q3 := q3.below b7s (Nat.le_refl _)
  have o4 := o4.below b7s (Nat.le_refl _)
  have G0 := (b7s.cell (p := ⟨w4.heap.size, 0, none⟩) ZG).trans G0
  have G1 := (b7s.cell (p := ⟨w4.heap.size, 1, none⟩) ZG).trans G1
  have ZG := Nat.lt_of_lt_of_le ZG b7s.size
  have K3 := nxt K3 b7s
  have T7s := nxt T7 b7s
  have t7s := nxt t7 b7s
  clear b7s T7 t7
  go_wp2_with fail
  refine (eqIntS_yes _ _ _ _ _ q3.sv q7.sv rfl yl1).mono ?_
  rintro e w7e ⟨rfl, b7e⟩
  clear q7 q7a
  have X := X.below b7e (Nat.le_refl _)
  have q3 := q3.below b7e (Nat.le_refl _)
  have o4 := o4.below b7e (Nat.le_refl _)
  have G0 := (b7e.cell (p := ⟨w4.heap.size, 0, none⟩) ZG).trans G0
  have G1 := (b7e.cell (p := ⟨w4.heap.size, 1, none⟩) ZG).trans G1
  have ZG := Nat.lt_of_lt_of_le ZG b7e.size
  have K3 := nxt K3 b7e
  have T7e := nxt T7s b7e
  have t7e := nxt t7s b7e
  clear b7e T7s t7s
  have T7 := T7e
  have t7 := t7e
  clear T7e t7e
  have x0 := (K3.cell (p := ⟨w3.heap.size, 0, none⟩) ZX.out).trans XH0.out
  have x1 := (K3.cell (p := ⟨w3.heap.size, 1, none⟩) ZX.out).trans XH1.out
  go_wp2_with fail
  refine (markCardsA n _ Ls _ _ 1 _ X HF.out (by omega) (by omega)).mono ?_
  rintro e w8 ⟨⟨r8, rfl, hr8⟩, m8⟩
  clear x0 x1 X K3
  have zgx : w3.heap.size ≤ w4.heap.size := by have := ZX.out; have := zs.out; have := zg.out; omega
  have G0 := (m8.cell (g := w4.heap.size) (j := 0) ZG (.inr zgx)).trans G0
  have G1 := (m8.cell (g := w4.heap.size) (j := 1) ZG (.inr zgx)).trans G1
  have ZG := Nat.lt_of_lt_of_le ZG m8.size
  have o4 := o4.mid m8 (by have := ZX.out; have := zs.out; omega)
  have q3 := q3.midO m8 (Nat.le_of_lt ZX.out)
  have b8 := m8.below T7.size
  have T8 := T7.trans b8
  have t8 := t7.trans (b8.mono t2.size)
  clear b8 m8 T7 t7
  go_wp2_with fail
  have MI := markIntS_any z3 ys1 _ r8 w8 q3 yl1 hr8.1 hr8.2
  obtain ⟨r9, e9⟩ : ∃ r9 : Int, r8 + (ys1.length : Int) = r9 := ⟨_, rfl⟩
  rw [e9] at MI
  have hr9 : 0 ≤ r9 := by have := hr8.1; omega
  clear e9 hr8
  refine MI.mono ?_
  rintro e w8b ⟨rfl, -, g8⟩
  clear MI
  rw [q3b.out] at g8
  have m8b := (Mid.refl W2.heap.size w3s.heap.size w8).grown g8 (by have := zx.out; have := ZX.out; omega) zs.out
  clear g8 q3
  have G0 := (m8b.cell (g := w4.heap.size) (j := 0) ZG (.inr zg.out)).trans G0
  have G1 := (m8b.cell (g := w4.heap.size) (j := 1) ZG (.inr zg.out)).trans G1
  have ZG := Nat.lt_of_lt_of_le ZG m8b.size
  have o4 := o4.mid m8b (Nat.le_refl _)
  have b8b := m8b.below T8.size
  have T8b := T8.trans b8b
  have t8b := t8.trans (b8b.mono t2.size)
  have T8 := T8b
  have t8 := t8b
  clear b8b m8b T8b t8b
  have e0 := (T8.cell (p := ⟨w2.heap.size, 0, none⟩) ZV.out).trans V0.out
  have e1 := (T8.cell (p := ⟨w2.heap.size, 1, none⟩) ZV.out).trans V1.out
  go_wp2_with fail
  refine (eqCards_yes _ _ _ _ _ o4.svv (S2.out.below T8 (Nat.le_refl _)) HFR.out).mono ?_
  rintro e w9 ⟨rfl, b9⟩
  clear e0 e1
  have o4 := o4.below b9 (Nat.le_refl _)
  have G0 := (b9.cell (p := ⟨w4.heap.size, 0, none⟩) ZG).trans G0
  have G1 := (b9.cell (p := ⟨w4.heap.size, 1, none⟩) ZG).trans G1
  have ZG := Nat.lt_of_lt_of_le ZG b9.size
  have T9 := nxt T8 b9
  have t9 := nxt t8 b9
  clear b9 T8 t8
  go_wp2_with fail
  refine (markCardsO _ _ _ _ _ 1 _ o4 HN.out HT.out (by omega) (by omega)).mono ?_
  rintro e w10 ⟨rfl, o10, m10⟩
  have G0 := (m10.cell (g := w4.heap.size) (j := 0) ZG (.inr (Nat.le_refl _))).trans G0
  have G1 := (m10.cell (g := w4.heap.size) (j := 1) ZG (.inr (Nat.le_refl _))).trans G1
  have ZG := Nat.lt_of_lt_of_le ZG m10.size
  have b10 := (m10.below (by have := ZG; have := zg.out; have := m10.size; omega)).mono (Nat.le_trans zx.out (Nat.le_trans (Nat.le_of_lt ZX.out) (Nat.le_of_lt zs.out)))
  have T10 := T9.trans b10
  have t10 := t9.trans (b10.mono t2.size)
  clear b10 m10 T9 t9 o4
  go_wp2_with fail
  refine (heldCards_any _ _ _ 1 _ o10.svv HN.out HT.out (by omega) (by omega)).mono ?_
  rintro e w11 ⟨rfl, b11⟩
  have o10 := o10.below b11 (Nat.le_refl _)
  have G0 := (b11.cell (p := ⟨w4.heap.size, 0, none⟩) ZG).trans G0
  have G1 := (b11.cell (p := ⟨w4.heap.size, 1, none⟩) ZG).trans G1
  have ZG := Nat.lt_of_lt_of_le ZG b11.size
  have T11 := nxt T10 b11
  have t11 := nxt t10 b11
  clear b11 T10 t10
  have d0 := (t11.cell (p := ⟨w.heap.size, 0, none⟩) ZW.out).trans C0.out
  have d1 := (t11.cell (p := ⟨w.heap.size, 1, none⟩) ZW.out).trans C1.out
  go_wp2_with fail
  refine (toCards_any n _ Ls _ (HS.out.below t11 (Nat.le_refl _)) HF.out).mono ?_
  clear d0 d1
  rintro e w12 ⟨u12, rfl, o12, b12⟩
  have o10 := o10.below b12 (Nat.le_refl _)
  have G0 := (b12.cell (p := ⟨w4.heap.size, 0, none⟩) ZG).trans G0
  have G1 := (b12.cell (p := ⟨w4.heap.size, 1, none⟩) ZG).trans G1
  have ZG := Nat.lt_of_lt_of_le ZG b12.size
  have T12 := nxt T11 b12
  have t12 := nxt t11 b12
  clear b12 T11 t11
  go_wp2_with fail
  refine (toIntS_any _ _ _ (K1.out.below t12 (Nat.le_refl _)) yl1).mono ?_
  rintro e w12s ⟨z12, rfl, q12, q12a, b12s⟩
  have o12 := o12.below b12s (Nat.le_refl _)
  have z12S := (q12.sp q12a).sv
  have o10 := o10.below b12s (Nat.le_refl _)
  have G0 := (b12s.cell (p := ⟨w4.heap.size, 0, none⟩) ZG).trans G0
  have G1 := (b12s.cell (p := ⟨w4.heap.size, 1, none⟩) ZG).trans G1
  have ZG := Nat.lt_of_lt_of_le ZG b12s.size
  have T12s := nxt T12 b12s
  have t12s := nxt t12 b12s
  clear b12s T12 t12
  clear q12 q12a
  go_wp2_with fail
  refine (implAddCard_any n u12 Ls z12 ys1 _ o12.svv HL.out HX.out z12S yl1).mono ?_
  rintro e w13 ⟨g13, rfl, o13, b13⟩
  have o10 := o10.below b13 (Nat.le_refl _)
  have G0 := (b13.cell (p := ⟨w4.heap.size, 0, none⟩) ZG).trans G0
  have G1 := (b13.cell (p := ⟨w4.heap.size, 1, none⟩) ZG).trans G1
  have ZG := Nat.lt_of_lt_of_le ZG b13.size
  have T13 := nxt T12s b13
  have t13 := nxt t12s b13
  clear b13 T12s t12s
  clear o12 z12S
  obtain ⟨p13, c13, rfl⟩ := o13.form
  have bb13 : Below w13.heap.size w13 (w13.alloc (.cells #[.int .i64 (acN n Ls ys1), .slice p13 (acR n Ls ys1).length c13] 24)) := (Below.refl _ _).alloc (Nat.le_refl _) _
  have o13 := o13.below bb13 (Nat.le_refl _)
  have o10 := o10.below bb13 (Nat.le_refl _)
  have G0 := (bb13.cell (p := ⟨w4.heap.size, 0, none⟩) ZG).trans G0
  have G1 := (bb13.cell (p := ⟨w4.heap.size, 1, none⟩) ZG).trans G1
  have ZG := Nat.lt_of_lt_of_le ZG bb13.size
  have T13b := nxt T13 bb13
  have t13b := nxt t13 bb13
  clear bb13 T13 t13
  have e0 := (T13b.cell (p := ⟨w2.heap.size, 0, none⟩) ZV.out).trans V0.out
  have e1 := (T13b.cell (p := ⟨w2.heap.size, 1, none⟩) ZV.out).trans V1.out
  go_wp2_with fail
  refine (eqCards_yes _ _ _ _ _ o13.svv (S2.out.below T13b (Nat.le_refl _)) HFR.out).mono ?_
  rintro e w14 ⟨rfl, b14⟩
  clear e0 e1
  have o10 := o10.below b14 (Nat.le_refl _)
  have G0 := (b14.cell (p := ⟨w4.heap.size, 0, none⟩) ZG).trans G0
  have G1 := (b14.cell (p := ⟨w4.heap.size, 1, none⟩) ZG).trans G1
  have ZG := Nat.lt_of_lt_of_le ZG b14.size
  have T14 := nxt T13b b14
  have t14 := nxt t13b b14
  clear b14 T13b t13b
  clear o13
  go_wp2_with fail
  refine (heldCards_any _ _ _ 1 _ o10.svv HN.out HT.out (by omega) (by omega)).mono ?_
  rintro e w15 ⟨rfl, b15⟩
  have o10 := o10.below b15 (Nat.le_refl _)
  have G0 := (b15.cell (p := ⟨w4.heap.size, 0, none⟩) ZG).trans G0
  have G1 := (b15.cell (p := ⟨w4.heap.size, 1, none⟩) ZG).trans G1
  have ZG := Nat.lt_of_lt_of_le ZG b15.size
  have T15 := nxt T14 b15
  have t15 := nxt t14 b15
  clear b15 T14 t14
  go_wp2_with fail
  go_ret
  exact ⟨rfl, nxt hb0 t15⟩

end Go.Proofs.Ytcgifmoddojnmab
