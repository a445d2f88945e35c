/-
  The law on ParseCards, walked: whatever text comes in, it returns true and writes nothing that was there. Condition: the library's variables hold what they held at the start.
-/
import Derived.Test.YtgojlabkngnkdaaDoorKqb
import Derived.Test.YtgojlabkngnkdaaDoorKqa
namespace Go.Proofs.YtgojlabkngnkdaaDoor
open Go.RowKit

theorem bstr_ofC (s : ByteArray) : bstr s.data.toList = s := by unfold bstr; simp

set_option maxHeartbeats 8000000 in
set_option maxRecDepth 20000 in
theorem lawParseCards (s : ByteArray) (w : World) (hs : s.size ≤ 9223372036854775807) (hE : Env w) :
    Calls Tryd.prog 4 #[.string s] w fun e w' => e = .returned (.bool true) ∧ Below w.heap.size w w' := by
  by_cases hl : s.size ≤ 1048576
  · obtain ⟨l, el⟩ : ∃ l, s.data.toList = l := ⟨_, rfl⟩
    have hsz : l.length = s.size := by rw [← el]; exact Array.length_toList
    have e2 : bstr l = s := by rw [← el]; exact bstr_ofC s
    have hll : l.length ≤ 1048576 := by omega
    have HFR := Lib.hid (pcL_few l)
    have hsp := fun wx => specParseCards_any l wx hll
    have him := fun wx (hx : Env wx) => implParseCards_any l wx hll hx
    rw [e2] at hsp him
    generalize pcL l = R at *
    generalize pcN l = N0 at *
    generalize ckB l = RB at *
    have HN := Lib.hid (HFR.out.len)
    have HT := Lib.hid (HFR.out.tot)
    have HSP : ∀ wx, Hid _ := fun wx => Lib.hid (hsp wx)
    have HIM : ∀ wx, Env wx → Hid _ := fun wx hx => Lib.hid (him wx hx)
    have HE := Lib.hid hE
    clear el e2 hsp him hE hsz hll
    go_enter Tryd.func4, Tryd.ntmps4
    go_wp2_with fail
    refine ((HSP _).out).mono ?_
    rintro e w2 ⟨v2, rfl, s2, t⟩
    obtain ⟨p2, c2, rfl⟩ := svv_form s2
    obtain ⟨W2, eW2⟩ : ∃ x, w2.alloc (.cells #[.int .i64 N0, .slice p2 R.length c2] 28) = x := ⟨_, rfl⟩
    have b : Below w2.heap.size w2 W2 := by rw [← eW2]; exact (Below.refl _ _).alloc (Nat.le_refl _) _
    have V0 : W2.cell? ⟨w2.heap.size, 0, none⟩ = some (.int .i64 N0) := by rw [← eW2]; exact card_n w2 _ _
    have V1 : W2.cell? ⟨w2.heap.size, 1, none⟩ = some (.slice p2 R.length c2) := by rw [← eW2]; exact card_v w2 _ _
    have ZV : Hid (w2.heap.size < W2.heap.size) := Lib.hid (by rw [← eW2]; simp)
    have S2 := Lib.hid (s2.below b (Nat.le_refl _))
    have V0 := Lib.hid V0
    have V1 := Lib.hid V1
    clear s2
    replace t := nxt t b
    clear b
    go_wp2_with fail
    clear eW2
    refine ((HIM _ (HE.out.below t (Nat.le_refl _))).out).mono ?_
    rintro e w4 ⟨g4, rfl, o4, b⟩
    have T := b
    have tz := Lib.hid t.size
    replace t := nxt t b
    clear b
    obtain ⟨p4, c4, rfl⟩ := o4.form
    obtain ⟨W4, eW4⟩ : ∃ x, w4.alloc (.cells #[.int .i64 N0, .slice p4 R.length c4] 28) = x := ⟨_, rfl⟩
    have b : Below w4.heap.size w4 W4 := by rw [← eW4]; exact (Below.refl _ _).alloc (Nat.le_refl _) _
    have G0 : W4.cell? ⟨w4.heap.size, 0, none⟩ = some (.int .i64 N0) := by rw [← eW4]; exact card_n w4 _ _
    have G1 : W4.cell? ⟨w4.heap.size, 1, none⟩ = some (.slice p4 R.length c4) := by rw [← eW4]; exact card_v w4 _ _
    have ZG : w4.heap.size < W4.heap.size := by rw [← eW4]; simp
    have zq : Hid (W2.heap.size ≤ w4.heap.size) := Lib.hid T.size
    replace o4 := o4.below b (Nat.le_refl _)
    replace t := nxt t b
    replace T := nxt T b
    clear b
    have e0 := (T.cell (p := ⟨w2.heap.size, 0, none⟩) ZV.out).trans V0.out
    have e1 := (T.cell (p := ⟨w2.heap.size, 1, none⟩) ZV.out).trans V1.out
    go_wp2_with fail
    clear eW4 e0 e1
    refine (eqCards_yes _ _ _ _ _ o4.svv (S2.out.below T (Nat.le_refl _)) HFR.out).mono ?_
    rintro e w5 ⟨rfl, b⟩
    replace o4 := o4.below b (Nat.le_refl _)
    replace G0 := (b.cell (p := ⟨w4.heap.size, 0, none⟩) ZG).trans G0
    replace G1 := (b.cell (p := ⟨w4.heap.size, 1, none⟩) ZG).trans G1
    replace ZG := Nat.lt_of_lt_of_le ZG b.size
    replace T := nxt T b
    replace t := nxt t b
    clear b
    go_wp2_with fail
    refine (markCardsO _ _ _ _ _ 1 _ o4 HN.out HT.out (by omega) (by omega)).mono ?_
    rintro e w10 ⟨rfl, o10, m10⟩
    have hz4 := zq.out
    replace G0 := (m10.cell (g := w4.heap.size) (j := 0) ZG (.inr (Nat.le_refl _))).trans G0
    replace G1 := (m10.cell (g := w4.heap.size) (j := 1) ZG (.inr (Nat.le_refl _))).trans G1
    replace ZG := Nat.lt_of_lt_of_le ZG m10.size
    have b := (m10.below T.size)
    replace T := T.trans b
    replace t := t.trans (b.mono tz.out)
    clear b m10 o4
    go_wp2_with fail
    refine (heldCards_any _ _ _ 1 _ o10.svv HN.out HT.out (by omega) (by omega)).mono ?_
    rintro e w11 ⟨rfl, b⟩
    replace o10 := o10.below b (Nat.le_refl _)
    replace G0 := (b.cell (p := ⟨w4.heap.size, 0, none⟩) ZG).trans G0
    replace G1 := (b.cell (p := ⟨w4.heap.size, 1, none⟩) ZG).trans G1
    replace ZG := Nat.lt_of_lt_of_le ZG b.size
    replace T := nxt T b
    replace t := nxt t b
    clear b
    go_wp2_with fail
    refine ((HIM _ (HE.out.below t (Nat.le_refl _))).out).mono ?_
    rintro e w13 ⟨y13, rfl, o13, b⟩
    replace o10 := o10.below b (Nat.le_refl _)
    replace G0 := (b.cell (p := ⟨w4.heap.size, 0, none⟩) ZG).trans G0
    replace G1 := (b.cell (p := ⟨w4.heap.size, 1, none⟩) ZG).trans G1
    replace ZG := Nat.lt_of_lt_of_le ZG b.size
    replace T := nxt T b
    replace t := nxt t b
    clear b
    obtain ⟨p13, c13, rfl⟩ := o13.form
    obtain ⟨W13, eW13⟩ : ∃ x, w13.alloc (.cells #[.int .i64 N0, .slice p13 R.length c13] 28) = x := ⟨_, rfl⟩
    have b : Below w13.heap.size w13 W13 := by rw [← eW13]; exact (Below.refl _ _).alloc (Nat.le_refl _) _
    have J0 : W13.cell? ⟨w13.heap.size, 0, none⟩ = some (.int .i64 N0) := by rw [← eW13]; exact card_n w13 _ _
    have J1 : W13.cell? ⟨w13.heap.size, 1, none⟩ = some (.slice p13 R.length c13) := by rw [← eW13]; exact card_v w13 _ _
    replace o13 := o13.below b (Nat.le_refl _)
    replace o10 := o10.below b (Nat.le_refl _)
    replace G0 := (b.cell (p := ⟨w4.heap.size, 0, none⟩) ZG).trans G0
    replace G1 := (b.cell (p := ⟨w4.heap.size, 1, none⟩) ZG).trans G1
    replace ZG := Nat.lt_of_lt_of_le ZG b.size
    replace T := nxt T b
    replace t := nxt t b
    clear b
    have e0 := (T.cell (p := ⟨w2.heap.size, 0, none⟩) ZV.out).trans V0.out
    have e1 := (T.cell (p := ⟨w2.heap.size, 1, none⟩) ZV.out).trans V1.out
    go_wp2_with fail
    clear eW13 e0 e1 J0 J1
    refine (eqCards_yes _ _ _ _ _ o13.svv (S2.out.below T (Nat.le_refl _)) HFR.out).mono ?_
    rintro e w14 ⟨rfl, b⟩
    replace o10 := o10.below b (Nat.le_refl _)
    replace G0 := (b.cell (p := ⟨w4.heap.size, 0, none⟩) ZG).trans G0
    replace G1 := (b.cell (p := ⟨w4.heap.size, 1, none⟩) ZG).trans G1
    replace ZG := Nat.lt_of_lt_of_le ZG b.size
    replace T := nxt T b
    replace t := nxt t b
    clear b
    clear o13
    go_wp2_with fail
    refine (heldCards_any _ _ _ 1 _ o10.svv HN.out HT.out (by omega) (by omega)).mono ?_
    rintro e w15 ⟨rfl, b⟩
    replace o10 := o10.below b (Nat.le_refl _)
    replace G0 := (b.cell (p := ⟨w4.heap.size, 0, none⟩) ZG).trans G0
    replace G1 := (b.cell (p := ⟨w4.heap.size, 1, none⟩) ZG).trans G1
    replace ZG := Nat.lt_of_lt_of_le ZG b.size
    replace T := nxt T b
    replace t := nxt t b
    clear b
    go_wp2_with fail
    go_ret
    exact ⟨rfl, t⟩
  · have hgt : (1048576 : Int) < (s.size : Int) := by omega
    clear hE
    go_enter Tryd.func4, Tryd.ntmps4
    go_wp2
    go_ret
    exact ⟨rfl, Below.refl _ _⟩

end Go.Proofs.YtgojlabkngnkdaaDoor
