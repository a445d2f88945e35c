/-
  The law on CheckedCards, walked: whatever comes in, it returns true and writes nothing that was there. No condition but lengths that fit int.
-/
import Derived.Test.YtgojlabkngnkdaaKcv
import Derived.Test.YtgojlabkngnkdaaQmi
import Derived.Deep.RegionHeld3
import Derived.Deep.CutRange
namespace Go.Proofs.Ytgojlabkngnkdaa
open Go.RowKit

set_option maxHeartbeats 8000000 in
theorem lawCheckedCards (a1 : Int) (w : World) :
    Calls Try.prog 5 #[.int .i64 a1] w fun e w' => e = .returned (.bool true) ∧ Below w.heap.size w w' := by
  have HFR : Hid (Few2 (ccR a1)) := Lib.hid ((ccR_few a1))
  have HN := Lib.hid (HFR.out.len)
  have HT := Lib.hid (HFR.out.tot)
  go_enter Try.func5, Try.ntmps5
  go_wp2_with fail
  refine (specCheckedCards_any a1 _).mono ?_
  rintro e w2 ⟨v2, rfl, s2, t2⟩
  have S2 := Lib.hid s2
  obtain ⟨p2, c2, rfl⟩ := svv_form s2
  clear s2
  obtain ⟨W2, eW2⟩ : ∃ W2, w2.alloc (.cells #[.int .i64 (ccN a1), .slice p2 (ccR a1).length c2] 36) = W2 := ⟨_, rfl⟩
  have bb2 : Below w2.heap.size w2 W2 := by rw [← eW2]; exact (Below.refl _ _).alloc (Nat.le_refl _) _
  have V0 := Lib.hid (show W2.cell? ⟨w2.heap.size, 0, none⟩ = some (.int .i64 (ccN a1)) by rw [← eW2]; exact card_n w2 _ _)
  have V1 := Lib.hid (show W2.cell? ⟨w2.heap.size, 1, none⟩ = some (.slice p2 (ccR a1).length c2) by rw [← eW2]; exact card_v w2 _ _)
  have ZV : Hid (w2.heap.size < W2.heap.size) := Lib.hid (by rw [← eW2]; simp)
  have S2 := Lib.hid (S2.out.below bb2 (Nat.le_refl _))
  have t2 := nxt t2 bb2
  clear bb2
  have t3 := t2
  go_wp2_with fail
  clear eW2
  refine (implCheckedCards_any a1 _).mono ?_
  rintro e w4 ⟨g4, rfl, o4, b4⟩
  have t4 := nxt t2 b4
  have T4 := b4
  clear b4
  obtain ⟨p4, c4, rfl⟩ := o4.form
  obtain ⟨W4, eW4⟩ : ∃ W4, w4.alloc (.cells #[.int .i64 (ccN a1), .slice p4 (ccR a1).length c4] 36) = W4 := ⟨_, rfl⟩
  have bb4 : Below w4.heap.size w4 W4 := by rw [← eW4]; exact (Below.refl _ _).alloc (Nat.le_refl _) _
  have G0 := show W4.cell? ⟨w4.heap.size, 0, none⟩ = some (.int .i64 (ccN a1)) by rw [← eW4]; exact card_n w4 _ _
  have G1 := show W4.cell? ⟨w4.heap.size, 1, none⟩ = some (.slice p4 (ccR a1).length c4) by rw [← eW4]; exact card_v w4 _ _
  have ZG : w4.heap.size < W4.heap.size := by rw [← eW4]; simp
  have o4 := o4.below bb4 (Nat.le_refl _)
  have t4 := nxt t4 bb4
  have T4 := nxt T4 bb4
  clear bb4
  have e0 := (T4.cell (p := ⟨w2.heap.size, 0, none⟩) ZV.out).trans V0.out
  have e1 := (T4.cell (p := ⟨w2.heap.size, 1, none⟩) ZV.out).trans V1.out
  go_wp2_with fail
  clear eW4
  refine (eqCards_yes _ _ _ _ _ o4.svv (S2.out.below T4 (Nat.le_refl _)) HFR.out).mono ?_
  rintro e w5 ⟨rfl, b5⟩
  clear e0 e1
  have o4 := o4.below b5 (Nat.le_refl _)
  have G0 := (b5.cell (p := ⟨w4.heap.size, 0, none⟩) ZG).trans G0
  have G1 := (b5.cell (p := ⟨w4.heap.size, 1, none⟩) ZG).trans G1
  have ZG := Nat.lt_of_lt_of_le ZG b5.size
  have T5 := nxt T4 b5
  have t5 := nxt t4 b5
  clear b5 T4 t4
  go_wp2_with fail
  refine (markCardsO _ _ _ _ _ 1 _ o4 HN.out HT.out (by omega) (by omega)).mono ?_
  rintro e w10 ⟨rfl, o10, m10⟩
  have G0 := (m10.cell (g := w4.heap.size) (j := 0) ZG (.inr (Nat.le_refl _))).trans G0
  have G1 := (m10.cell (g := w4.heap.size) (j := 1) ZG (.inr (Nat.le_refl _))).trans G1
  have ZG := Nat.lt_of_lt_of_le ZG m10.size
  have b10 := (m10.below T5.size).mono (Nat.le_refl _)
  have T10 := T5.trans b10
  have t10 := t5.trans (b10.mono t2.size)
  clear b10 m10 T5 t5 o4
  go_wp2_with fail
  refine (heldCards_any _ _ _ 1 _ o10.svv HN.out HT.out (by omega) (by omega)).mono ?_
  rintro e w11 ⟨rfl, b11⟩
  have o10 := o10.below b11 (Nat.le_refl _)
  have G0 := (b11.cell (p := ⟨w4.heap.size, 0, none⟩) ZG).trans G0
  have G1 := (b11.cell (p := ⟨w4.heap.size, 1, none⟩) ZG).trans G1
  have ZG := Nat.lt_of_lt_of_le ZG b11.size
  have T11 := nxt T10 b11
  have t11 := nxt t10 b11
  clear b11 T10 t10
  go_wp2_with fail
  refine (implCheckedCards_any a1 _).mono ?_
  rintro e w13 ⟨g13, rfl, o13, b13⟩
  have o10 := o10.below b13 (Nat.le_refl _)
  have G0 := (b13.cell (p := ⟨w4.heap.size, 0, none⟩) ZG).trans G0
  have G1 := (b13.cell (p := ⟨w4.heap.size, 1, none⟩) ZG).trans G1
  have ZG := Nat.lt_of_lt_of_le ZG b13.size
  have T13 := nxt T11 b13
  have t13 := nxt t11 b13
  clear b13 T11 t11
  obtain ⟨p13, c13, rfl⟩ := o13.form
  have bb13 : Below w13.heap.size w13 (w13.alloc (.cells #[.int .i64 (ccN a1), .slice p13 (ccR a1).length c13] 36)) := (Below.refl _ _).alloc (Nat.le_refl _) _
  have o13 := o13.below bb13 (Nat.le_refl _)
  have o10 := o10.below bb13 (Nat.le_refl _)
  have G0 := (bb13.cell (p := ⟨w4.heap.size, 0, none⟩) ZG).trans G0
  have G1 := (bb13.cell (p := ⟨w4.heap.size, 1, none⟩) ZG).trans G1
  have ZG := Nat.lt_of_lt_of_le ZG bb13.size
  have T13b := nxt T13 bb13
  have t13b := nxt t13 bb13
  clear bb13 T13 t13
  have e0 := (T13b.cell (p := ⟨w2.heap.size, 0, none⟩) ZV.out).trans V0.out
  have e1 := (T13b.cell (p := ⟨w2.heap.size, 1, none⟩) ZV.out).trans V1.out
  go_wp2_with fail
  refine (eqCards_yes _ _ _ _ _ o13.svv (S2.out.below T13b (Nat.le_refl _)) HFR.out).mono ?_
  rintro e w14 ⟨rfl, b14⟩
  clear e0 e1
  have o10 := o10.below b14 (Nat.le_refl _)
  have G0 := (b14.cell (p := ⟨w4.heap.size, 0, none⟩) ZG).trans G0
  have G1 := (b14.cell (p := ⟨w4.heap.size, 1, none⟩) ZG).trans G1
  have ZG := Nat.lt_of_lt_of_le ZG b14.size
  have T14 := nxt T13b b14
  have t14 := nxt t13b b14
  clear b14 T13b t13b
  clear o13
  go_wp2_with fail
  refine (heldCards_any _ _ _ 1 _ o10.svv HN.out HT.out (by omega) (by omega)).mono ?_
  rintro e w15 ⟨rfl, b15⟩
  have o10 := o10.below b15 (Nat.le_refl _)
  have G0 := (b15.cell (p := ⟨w4.heap.size, 0, none⟩) ZG).trans G0
  have G1 := (b15.cell (p := ⟨w4.heap.size, 1, none⟩) ZG).trans G1
  have ZG := Nat.lt_of_lt_of_le ZG b15.size
  have T15 := nxt T14 b15
  have t15 := nxt t14 b15
  clear b15 T14 t14
  go_wp2_with fail
  go_ret
  exact ⟨rfl, t15⟩

end Go.Proofs.Ytgojlabkngnkdaa
