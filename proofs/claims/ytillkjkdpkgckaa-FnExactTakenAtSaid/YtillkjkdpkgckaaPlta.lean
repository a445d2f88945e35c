/-
  The law on TakenAt, walked: whatever comes in, it returns true and writes nothing that was there. No condition but lengths that fit int.
-/
import Derived.Test.YtillkjkdpkgckaaPtos
import Derived.Test.YtillkjkdpkgckaaPap
namespace Go.Proofs.Ytillkjkdpkgckaa
open Go.RowKit

set_option maxHeartbeats 8000000 in
theorem lawTakenAt (v u : Value) (xs : List Int) (pl : List (List Int)) (a1 : Int) (w : World) (hv : Sv w v xs) (hu : Svv w u pl) (_hm : xs.length ≤ 9223372036854775807) (hn : pl.length ≤ 9223372036854775807) (hr : ∀ j, j < pl.length → (rowL pl j).length ≤ 9223372036854775807) :
    Calls Try.prog 12 #[v, u, .int .i64 a1] w fun e w' => e = .returned (.bool true) ∧ Below w.heap.size w w' := by
  have hs := hv
  obtain ⟨p, cap, rfl, hx⟩ := hv
  clear hx
  by_cases hbig : 1048576 < xs.length
  · clear hu hr hs
    go_enter Try.func12, Try.ntmps12
    go_wp2
    go_ret
    exact ⟨rfl, Below.refl _ _⟩
  · have hl : xs.length ≤ 1099511627776 := by omega
    have hyl : (taR xs pl a1).length ≤ 1099511627776 := taR_len xs pl a1
    have SZ := Lib.hid (szIntSS_any u pl w hu hn hr)
    have HS := Lib.hid hs
    have HU := Lib.hid hu
    clear hu hr hs hn
    go_enter Try.func12, Try.ntmps12
    go_wp2_with fail
    refine SZ.out.mono ?_
    rintro e w0 ⟨⟨r, rfl, hr⟩, rfl⟩
    clear SZ
    by_cases hneg : r < 0
    · clear hr
      go_wp2_with fail
      go_ret
      exact ⟨rfl, Below.refl _ _⟩
    · have hf : Few2 pl := by rcases hr with h | h; exact absurd h hneg; exact h.2
      have HF := Lib.hid hf
      clear hr hf
      go_wp2_with fail
      refine (toIntS_any _ _ _ HS.out hl).mono ?_
      rintro e w1 ⟨u1, rfl, o1, -, b1⟩
      go_wp2_with fail
      refine (toIntSS_any _ _ _ (HU.out.below b1 (Nat.le_refl _)) HF.out).mono ?_
      rintro e w2 ⟨u2, rfl, o2, b2⟩
      have o1 := o1.below b2 (Nat.le_refl _)
      have t2 := nxt b1 b2
      clear b1 b2
      go_wp2_with fail
      refine (specTakenAt_any _ _ _ _ _ _ o1.sv o2.svv hl HF.out).mono ?_
      rintro e w3 ⟨v3, rfl, o3, b3⟩
      have z2 := t2.size
      have o3 := o3.mono z2
      have t3 := nxt t2 b3
      have z3 := t3.size
      have l3 : ∀ g, v3.ownBlock = some g → g < w3.heap.size := fun g h => (World.ownsRow.lt o3 g h).2
      clear b3 t2 o1 o2
      go_wp2_with fail
      refine (toIntS_any _ _ _ (HS.out.below t3 (Nat.le_refl _)) hl).mono ?_
      rintro e w4 ⟨u4, rfl, o4, a4, b4⟩
      have p3 := ap_below o3 a4 (Nat.le_refl _)
      have z4 := b4.size
      have lt4 := own_lt o4 a4
      have q3 := o3.below b4 (Nat.le_refl _)
      have t4 := nxt t3 b4
      clear b4 t3 o3
      go_wp2_with fail
      refine (toIntSS_any _ _ _ (HU.out.below t4 (Nat.le_refl _)) HF.out).mono ?_
      rintro e w5 ⟨u5, rfl, o5, b5⟩
      have z5 := b5.size
      have zz4 := t4.size
      have o4 := o4.below b5 (Nat.le_refl _)
      have q3 := q3.below b5 (Nat.le_refl _)
      have t5 := nxt t4 b5
      clear b5 t4
      go_wp2_with fail
      refine (implTakenAt_any _ _ _ _ _ _ o4.sv o5.svv hl HF.out).mono ?_
      rintro e w6 ⟨g6, rfl, o6, b6⟩
      have p6 := ap_above o6 a4 (by omega)
      have l6 : ∀ g, g6.ownBlock = some g → w5.heap.size ≤ g := fun g h => (World.ownsRow.lt o6 g h).1
      have p36 : Apart v3 g6.ownBlock := by
        rcases hh : v3.ownBlock with _ | k
        · exact .inl hh
        · refine .inr ?_
          rw [hh]
          intro h2
          have h3 := l6 k h2.symm
          have h4 := l3 k hh
          omega
      have o4 := o4.below b6 (Nat.le_refl _)
      have o5 := o5.below b6 (Nat.le_refl _)
      have q3 := q3.below b6 (Nat.le_refl _)
      have zz5 := t5.size
      have o6 := o6.mono zz5
      have t6 := nxt t5 b6
      clear b6 t5
      go_wp2_with fail
      refine (eqIntS_yes _ _ _ _ _ o6.sv q3.sv rfl hyl).mono ?_
      rintro e w7 ⟨rfl, b7⟩
      have o4 := o4.below b7 (Nat.le_refl _)
      have o5 := o5.below b7 (Nat.le_refl _)
      have o6 := o6.below b7 (Nat.le_refl _)
      have q3 := q3.below b7 (Nat.le_refl _)
      have t7 := nxt t6 b7
      clear b7 t6
      go_wp2_with fail
      refine (toIntS_any _ _ _ (HS.out.below t7 (Nat.le_refl _)) hl).mono ?_
      rintro e w8 ⟨u8, rfl, o8, -, b8⟩
      have o4 := o4.below b8 (Nat.le_refl _)
      have o5 := o5.below b8 (Nat.le_refl _)
      have o6 := o6.below b8 (Nat.le_refl _)
      have q3 := q3.below b8 (Nat.le_refl _)
      have t8 := nxt t7 b8
      clear b8 t7
      go_wp2_with fail
      refine (eqIntS_yes _ _ _ _ _ o4.sv o8.sv rfl hl).mono ?_
      rintro e w9 ⟨rfl, b9⟩
      have o4 := o4.below b9 (Nat.le_refl _)
      have o5 := o5.below b9 (Nat.le_refl _)
      have o6 := o6.below b9 (Nat.le_refl _)
      have q3 := q3.below b9 (Nat.le_refl _)
      have t9 := nxt t8 b9
      clear b9 t8 o8
      go_wp2_with fail
      refine (toIntSS_any _ _ _ (HU.out.below t9 (Nat.le_refl _)) HF.out).mono ?_
      rintro e w10 ⟨u10, rfl, o10, b10⟩
      have o4 := o4.below b10 (Nat.le_refl _)
      have o5 := o5.below b10 (Nat.le_refl _)
      have o6 := o6.below b10 (Nat.le_refl _)
      have q3 := q3.below b10 (Nat.le_refl _)
      have t10 := nxt t9 b10
      clear b10 t9
      go_wp2_with fail
      refine (eqIntSS_yes _ _ _ _ o5.svv o10.svv HF.out).mono ?_
      rintro e w11 ⟨rfl, b11⟩
      have o4 := o4.below b11 (Nat.le_refl _)
      have o5 := o5.below b11 (Nat.le_refl _)
      have o6 := o6.below b11 (Nat.le_refl _)
      have q3 := q3.below b11 (Nat.le_refl _)
      have t11 := nxt t10 b11
      have z11 := t11.size
      clear b11 t10 o10
      go_wp2_with fail
      refine (markIntS_any _ xs _ 1 _ o4 hl (by omega) (by omega)).mono ?_
      rintro e w12 ⟨rfl, -, g12⟩
      have g12' := g12
      rw [show u4.ownBlock = some w3.heap.size from a4] at g12'
      have o5 := o5.kept g12' (by omega)
      have o6 := o6.kept g12 p6
      have q3 := q3.kept g12 p3
      have t12 := t11.trans (o4.marked z3 (Nat.le_of_lt (own_lt o4 a4)) g12)
      have z12 := t12.size
      have n5 := g12.size
      have n6 := own_lt o4 a4
      have n7 := o5.le
      clear o4 g12 g12' t11 a4
      go_wp2_with fail
      refine (markIntSS_any _ pl _ _ _ _ o5 HF.out (by omega) (by omega)).mono ?_
      rintro e w13 ⟨⟨r2, rfl, hr2⟩, m13⟩
      have o6 := o6.mid m13 (fun g h => .inr (l6 g h))
      have q3 := q3.mid m13 (fun g h => .inl (by have := l3 g h; omega))
      have t13 := t12.trans (Below.mono (m13.below (by omega)) zz4)
      have z13 := t13.size
      have d2 : ¬ r2 < 0 := by omega
      clear o5 m13 t12
      go_wp2_with fail
      refine (eqIntS_yes _ _ _ _ _ o6.sv q3.sv rfl hyl).mono ?_
      rintro e w14 ⟨rfl, b14⟩
      have o6 := o6.below b14 (Nat.le_refl _)
      have q3 := q3.below b14 (Nat.le_refl _)
      have t14 := nxt t13 b14
      have z14 := t14.size
      clear b14 t13 hr2
      go_wp2_with fail
      refine (markIntS_any _ (taR xs pl a1) _ 1 _ o6 hyl (by omega) (by omega)).mono ?_
      rintro e w15 ⟨rfl, o15, g15⟩
      have q3 := q3.kept g15 p36
      have t15 := t14.trans (o6.marked (Nat.le_refl _) z14 g15)
      clear o6 g15 t14
      go_wp2_with fail
      refine (heldIntS_any _ (taR xs pl a1).length 1 _ o15.sv hyl (by omega) (by omega)).mono ?_
      rintro e w15' ⟨rfl, rfl⟩
      go_wp2_with fail
      refine (toIntS_any _ _ _ (HS.out.below t15 (Nat.le_refl _)) hl).mono ?_
      rintro e w16 ⟨u16, rfl, o16, -, b16⟩
      have o15 := o15.below b16 (Nat.le_refl _)
      have q3 := q3.below b16 (Nat.le_refl _)
      have t16 := nxt t15 b16
      clear b16 t15
      go_wp2_with fail
      refine (toIntSS_any _ _ _ (HU.out.below t16 (Nat.le_refl _)) HF.out).mono ?_
      rintro e w17 ⟨u17, rfl, o17, b17⟩
      have o15 := o15.below b17 (Nat.le_refl _)
      have o16 := o16.below b17 (Nat.le_refl _)
      have q3 := q3.below b17 (Nat.le_refl _)
      have t17 := nxt t16 b17
      clear b17 t16
      go_wp2_with fail
      refine (implTakenAt_any _ _ _ _ _ _ o16.sv o17.svv hl HF.out).mono ?_
      rintro e w18 ⟨h18, rfl, o18, b18⟩
      have o15 := o15.below b18 (Nat.le_refl _)
      have q3 := q3.below b18 (Nat.le_refl _)
      have t18 := nxt t17 b18
      clear b18 t17 o16 o17
      go_wp2_with fail
      refine (eqIntS_yes _ _ _ _ _ o18.sv q3.sv rfl hyl).mono ?_
      rintro e w19 ⟨rfl, b19⟩
      have o15 := o15.below b19 (Nat.le_refl _)
      have t19 := nxt t18 b19
      clear b19 t18 o18 q3
      go_wp2_with fail
      refine (heldIntS_any _ (taR xs pl a1).length 1 _ o15.sv hyl (by omega) (by omega)).mono ?_
      rintro e w19' ⟨rfl, rfl⟩
      go_wp2_with fail
      go_ret
      exact ⟨rfl, t19⟩
end Go.Proofs.Ytillkjkdpkgckaa
