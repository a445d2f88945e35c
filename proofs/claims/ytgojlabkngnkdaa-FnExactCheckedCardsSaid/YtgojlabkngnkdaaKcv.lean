/-
  CheckedCards in the program, by contract; the answer is small. No condition.
-/
import Derived.Test.YtgojlabkngnkdaaKcu
import Derived.Test.YtgojlabkngnkdaaKcs
import Derived.Test.YtgojlabkngnkdaaQfw
import Derived.Test.YtgojlabkngnkdaaQcs
namespace Go.Proofs.Ytgojlabkngnkdaa
open Go.RowKit

theorem ccR_few (n : Int) : Few2 (ccR n) := by
  unfold ccR
  split
  · have h : ∀ j, j < (ckL n.toNat).length → (rowL (ckL n.toNat) j).length ≤ 128 := fun j hj => by
      unfold rowL
      rw [List.getD_eq_getElem?_getD]
      unfold ckL
      rw [List.getElem?_map]
      cases (ckD n.toNat)[j]? with
      | none => simp
      | some f => exact sLK_len f 128
    have h2 := tot_row_le h (ckL n.toNat).length (Nat.le_refl _)
    have h3 := ckL_len n.toNat
    have h4 := lenC_le (flen ((n.toNat : Nat) : Int))
    unfold Few2
    have : Go.Proofs.Ytgojlabkngnkdaa.tot (ckL n.toNat) (ckL n.toNat).length ≤ 128 * 11 := Nat.le_trans h2 (Nat.mul_le_mul_left _ (by omega))
    omega
  · exact few2_nil

set_option maxHeartbeats 4000000 in
set_option maxRecDepth 100000 in
theorem implCheckedCards_any (n : Int) (w : World) :
    Calls Try.prog 17 #[.int .i64 n] w fun e w' => ∃ u, e = .returned (.tuple #[.agg #[.int .i64 (ccN n), u], .bool (inB n 2 128)]) ∧ Owa w' w.heap.size w'.heap.size u (ccR n) ∧ Below w.heap.size w w' := by
  have AN := fun W => Lib.hid (areNumbers_any n W)
  have HN1 : inB n 2 128 = (inB n 1 128 && !(n == 1)) := by
    rw [Bool.eq_iff_iff, inB_iff, Bool.and_eq_true, inB_iff, Bool.not_eq_true', beq_eq_false_iff_ne]; omega
  cases hg : inB n 2 128 with
  | false =>
    rw [(cc_no hg).1, (cc_no hg).2]
    rw [hg] at HN1
    cases h1 : inB n 1 128 with
    | false =>
      rw [h1] at AN
      clear hg h1 HN1
      go_enter Try.func17, Try.ntmps17
      go_wp2_with (go_at_call 41; refine (AN _).out.mono ?_; rintro e w' ⟨rfl, rfl⟩)
      refine bodyPost_ret (v := .tuple #[.agg #[.int .i64 0, .slice none 0 0], .bool false]) (by simp [results, Try.results17, go_sem]) rfl ⟨_, rfl, Owa.nil _ _ _, (Below.refl _ _).alloc (Nat.le_refl _) _⟩
    | true =>
      rw [h1] at AN HN1
      have hn1 : (n == 1) = true := by
        cases h : (n == 1) with
        | true => rfl
        | false => rw [h] at HN1; cases HN1
      clear hg h1 HN1
      go_enter Try.func17, Try.ntmps17
      go_wp2_with (go_at_call 41; refine (AN _).out.mono ?_; rintro e w' ⟨rfl, rfl⟩)
      refine bodyPost_ret (v := .tuple #[.agg #[.int .i64 0, .slice none 0 0], .bool false]) (by simp [results, Try.results17, go_sem]) rfl ⟨_, rfl, Owa.nil _ _ _, (Below.refl _ _).alloc (Nat.le_refl _) _⟩
  | true =>
    rw [(cc_yes hg).1, (cc_yes hg).2]
    have hb := inB_iff.1 hg
    have h11 : inB n 1 128 = true := inB_iff.2 (by omega)
    rw [h11] at AN
    have hn1 : (n == 1) = false := by rw [beq_eq_false_iff_ne]; omega
    clear h11 HN1
    obtain ⟨m, rfl⟩ : ∃ m : Nat, n = m := ⟨n.toNat, by omega⟩
    have hm : m ≤ 128 := by omega
    have BD := Lib.hid (fun W => binaryDeck_any m W (by omega) hm)
    have L7 := flen_le (n := (m : Int)) (by omega) hb.2
    have L1 := flen_pos (n := (m : Int)) hb.1 hb.2
    rw [Int.toNat_natCast]
    have HCH := Lib.hid (fun s W (h : Dr W s (bdK m (flen (m : Int)))) => checked_any m (flen (m : Int)) s W h L1 L7)
    have HLs : Hid ((stL m (flen (m : Int)) 16).map sL = ckL m) := Lib.hid rfl
    have hp12 : Hid ((stL m (flen (m : Int)) 16).length ≤ 12) := Lib.hid (by rw [stL_len]; have := lenC_le (flen (m : Int)); omega)
    obtain ⟨R, eR⟩ : ∃ R, ckL m = R := ⟨_, rfl⟩
    rw [eR] at HLs ⊢
    obtain ⟨bs, ebs⟩ : ∃ bs, bdK m (flen (m : Int)) = bs := ⟨_, rfl⟩
    rw [ebs] at BD HCH
    obtain ⟨ps, eps⟩ : ∃ ps, stL m (flen (m : Int)) 16 = ps := ⟨_, rfl⟩
    rw [eps] at HCH HLs hp12
    clear eR eps ebs hg hb L7 L1 hm
    obtain ⟨W, eW⟩ : ∃ W, w.alloc (.cells #[.int .i64 0, .slice none 0 0] 36) = W := ⟨_, rfl⟩
    have hb0 : Below w.heap.size w W := by rw [← eW]; exact (Below.refl _ _).alloc (Nat.le_refl _) _
    have HZ : w.heap.size + 1 ≤ W.heap.size := by rw [← eW]; simp
    have k1 : W.heap[w.heap.size]? = some (.cells #[.int .i64 0, .slice none 0 0] 36 (0, 0)) := by rw [← eW]; exact heap_alloc_new w _
    go_enter Try.func17, Try.ntmps17
    go_wp2_with (go_at_call 41; refine (AN _).out.mono ?_; rintro e w' ⟨rfl, rfl⟩)
    clear eW
    refine (BD.out _).mono ?_
    rintro e w1 ⟨s, rfl, d1, b1⟩
    have DR := d1.dr
    clear d1
    obtain ⟨q1, q2, rfl⟩ := DR.form
    go_wp2_with fail
    refine (HCH.out _ w1 DR).mono ?_
    rintro e w1c ⟨s2, rfl, d2, b1c⟩
    have DR2 := d2.dr
    clear d2 DR
    obtain ⟨q3, q4, rfl⟩ := DR2.form
    have b1 := nxt b1 b1c
    go_wp2_with fail
    refine (told_any (m : Int) _ ps w1c DR2 hp12.out).mono ?_
    rintro e w2 ⟨u, rfl, o2, b2⟩
    rw [HLs.out] at o2
    have K1 := (b2.block w.heap.size (by have := b1.size; omega)).trans ((b1.block w.heap.size (by omega)).trans k1)
    obtain ⟨c10, c11, f10, f11⟩ := cells2_of K1
    have HO := Lib.hid o2
    have hb2 := Lib.hid (nxt (nxt hb0 b1) b2)
    have z1 := Nat.le_trans HZ b1.size
    clear DR2 o2 b1 b1c b2 k1 K1 hb0 HZ
    obtain ⟨sp, sc, rfl⟩ := HO.out.form
    go_wp2
    obtain ⟨fs, hfs⟩ := Try.cardsU
    refine bodyPost_ret (v := .tuple #[.agg #[.int .i64 (m : Int), .slice sp R.length sc], .bool true]) (results_twob rfl _ _ w.heap.size _ _ fs rfl ?_ ?_ hfs Try.cardsI _ rfl) rfl ⟨_, rfl, ((HO.out.abv (((Abv.refl _ _).setCell (g := w.heap.size) (by omega) 0 _).setCell (g := w.heap.size) (by omega) 1 _)).mono (by omega) (by simp)), (hb2.out.setCell (p := ⟨w.heap.size, 0, none⟩) (Nat.le_refl _) _).setCell (p := ⟨w.heap.size, 1, none⟩) (Nat.le_refl _) _⟩
    · simp [World.cell?_setCell_other, World.cell?_setCell_same, go_sem, c10]
    · simp [World.cell?_setCell_other, World.cell?_setCell_same, go_sem, c11]
end Go.Proofs.Ytgojlabkngnkdaa
