/-
  The law on HalfOf, walked: the model and the program answer alike. No condition but a length that fits int.
-/
import Derived.Test.YtpijogajjinedaaFirst
namespace Go.Proofs.Ytpijogajjinedaa
open Go.RowKit

noncomputable def halfB (xs : List Int) : Bool := goodB xs && (sumP xs % 2 == 0) && !(Wy xs (sumP xs / 2) == 0)
noncomputable def halfR (xs : List Int) : List Int := if halfB xs = true then (fw xs (sumP xs / 2) xs.length).1 else []
theorem half_no {xs : List Int} (h : goodB xs = false) : halfB xs = false ∧ halfR xs = [] := by
  have e : halfB xs = false := by simp [halfB, h]
  exact ⟨e, by simp [halfR, e]⟩
theorem half_odd {xs : List Int} (h : ¬ sumP xs % 2 = 0) : halfB xs = false ∧ halfR xs = [] := by
  have e : halfB xs = false := by simp [halfB, h]
  exact ⟨e, by simp [halfR, e]⟩
theorem half_none {xs : List Int} (h : Wy xs (sumP xs / 2) = 0) : halfB xs = false ∧ halfR xs = [] := by
  have e : halfB xs = false := by simp [halfB, h]
  exact ⟨e, by simp [halfR, e]⟩
theorem half_yes {xs : List Int} (hg : goodB xs = true) (h2 : sumP xs % 2 = 0) (h : ¬ Wy xs (sumP xs / 2) = 0) : halfB xs = true ∧ halfR xs = (fw xs (sumP xs / 2) xs.length).1 := by
  have e : halfB xs = true := by simp [halfB, hg, h2, h]
  exact ⟨e, by simp [halfR, e]⟩
theorem half_first {xs : List Int} (hg : goodB xs = true) (h2 : sumP xs % 2 = 0) : halfB xs = firstB xs (sumP xs / 2) ∧ halfR xs = firstR xs (sumP xs / 2) := by
  have hs := (goodB_iff.1 hg).sum
  have ha : askB xs (sumP xs / 2) = true := askB_yes hg (inB_iff.2 ⟨by omega, by omega⟩)
  by_cases h : Wy xs (sumP xs / 2) = 0
  · have A := half_none h
    have B := first_none h
    exact ⟨by rw [A.1, B.1], by rw [A.2, B.2]⟩
  · have A := half_yes hg h2 h
    have B := first_yes ha h
    exact ⟨by rw [A.1, B.1], by rw [A.2, B.2]⟩
theorem halfR_len (xs : List Int) : (halfR xs).length ≤ 1099511627776 := by
  unfold halfR
  by_cases h : halfB xs = true
  · rw [if_pos h]
    simp only [halfB, Bool.and_eq_true] at h
    have := (goodB_iff.1 h.1.1).len
    have := fw_len xs (sumP xs / 2) xs.length
    omega
  · rw [if_neg h]; simp

set_option maxHeartbeats 4000000 in
theorem specHalfOf_any (v : Value) (xs : List Int) (w : World) (hsp : Sp w v xs) (hl : xs.length ≤ 1099511627776) :
    Calls Try.prog 51 #[v] w fun e w' => ∃ u, e = .returned (.tuple #[u, .bool (halfB xs)]) ∧ Ow w' w.heap.size u (halfR xs) ∧ Below w.heap.size w w' := by
  have h := hsp.sv
  by_cases hg : goodB xs = true
  · have hgood := goodB_iff.1 hg
    obtain ⟨hs0, hs1⟩ := hgood.sum
    by_cases h2 : sumP xs % 2 = 0
    · have d2 : (sumP xs % 2 == 0) = true := by simpa using h2
      by_cases hz : Wy xs (sumP xs / 2) = 0
      · have R := Lib.hid (half_none hz)
        have HZ := Lib.hid hz
        have H2 := Lib.hid h2
        clear hz h2
        go_enter Try.func51, Try.ntmps51
        go_wp2_with fail
        refine (piGood_any _ _ _ h hl).mono ?_
        rintro e w1 ⟨rfl, b1⟩
        have h1 := h.below b1 (Nat.le_refl _)
        go_wp2_with fail
        refine (piSum_any _ _ _ h1 hgood).mono ?_
        rintro e w1' ⟨rfl, rfl⟩
        go_wp2_with fail
        refine (piSum_any _ _ _ h1 hgood).mono ?_
        rintro e w1' ⟨rfl, rfl⟩
        go_wp2_with fail
        refine (piMake_any _ _ _ _ h1 hgood (by omega)).mono ?_
        rintro e w2 ⟨rfl, b2⟩
        rw [HZ.out]
        go_wp2_with fail
        go_ret2
        exact ⟨_, ret_lb rfl R.out.1.symm, by rw [R.out.2]; exact ow_nil _ _, nxt b1 b2⟩
      · have R := Lib.hid (half_yes hg h2 hz)
        have d : (Wy xs (sumP xs / 2) == 0) = false := by simpa using hz
        have H2 := Lib.hid h2
        clear hz h2
        go_enter Try.func51, Try.ntmps51
        go_wp2_with fail
        refine (piGood_any _ _ _ h hl).mono ?_
        rintro e w1 ⟨rfl, b1⟩
        have h1 := h.below b1 (Nat.le_refl _)
        go_wp2_with fail
        refine (piSum_any _ _ _ h1 hgood).mono ?_
        rintro e w1' ⟨rfl, rfl⟩
        go_wp2_with fail
        refine (piSum_any _ _ _ h1 hgood).mono ?_
        rintro e w1' ⟨rfl, rfl⟩
        go_wp2_with fail
        refine (piMake_any _ _ _ _ h1 hgood (by omega)).mono ?_
        rintro e w2 ⟨rfl, b2⟩
        have b2 := nxt b1 b2
        have z2 := b2.size
        clear b1
        go_wp2_with fail
        refine (piSum_any _ _ _ (h.below b2 (Nat.le_refl _)) hgood).mono ?_
        rintro e w1' ⟨rfl, rfl⟩
        go_wp2_with fail
        refine (piFirst_any _ _ _ _ (hsp.below b2 (Nat.le_refl _)) hgood (by omega) (by omega)).mono ?_
        rintro e w3 ⟨u, rfl, o3, b3⟩
        go_wp2_with fail
        go_ret2
        exact ⟨_, ret_lb rfl R.out.1.symm, by rw [R.out.2]; exact o3.mono z2, nxt b2 b3⟩
    · have d2 : (sumP xs % 2 == 0) = false := by simpa using h2
      have R := Lib.hid (half_odd h2)
      have d3 : sumP xs % 2 = 1 := by omega
      have d4 : (sumP xs % 2 != 0) = true := by simpa using h2
      clear d3
      go_enter Try.func51, Try.ntmps51
      go_wp2_with fail
      refine (piGood_any _ _ _ h hl).mono ?_
      rintro e w1 ⟨rfl, b1⟩
      have h1 := h.below b1 (Nat.le_refl _)
      go_wp2_with fail
      refine (piSum_any _ _ _ h1 hgood).mono ?_
      rintro e w1' ⟨rfl, rfl⟩
      go_wp2_with fail
      go_ret2
      exact ⟨_, ret_lb rfl R.out.1.symm, by rw [R.out.2]; exact ow_nil _ _, b1⟩
  · have hg : goodB xs = false := by simpa using hg
    have R := Lib.hid (half_no hg)
    go_enter Try.func51, Try.ntmps51
    go_wp2_with fail
    refine (piGood_any _ _ _ h hl).mono ?_
    rintro e w1 ⟨rfl, b1⟩
    go_wp2_with fail
    go_ret2
    exact ⟨_, ret_lb rfl R.out.1.symm, by rw [R.out.2]; exact ow_nil _ _, b1⟩

set_option maxHeartbeats 4000000 in
set_option maxRecDepth 100000 in
theorem implHalfOf_any (v : Value) (xs : List Int) (w : World) (hsp : Sp w v xs) (hl : xs.length ≤ 1099511627776) :
    Calls Try.prog 52 #[v] w fun e w' => ∃ u, e = .returned (.tuple #[u, .bool (halfB xs)]) ∧ Ow w' w.heap.size u (halfR xs) ∧ Below w.heap.size w w' := by
  have h := hsp.sv
  by_cases hg : goodB xs = true
  · have hgood := goodB_iff.1 hg
    obtain ⟨hs0, hs1⟩ := hgood.sum
    by_cases h2 : sumP xs % 2 = 0
    · have F := Lib.hid (half_first hg h2)
      have d2 : (sumP xs / 2 + sumP xs / 2 == sumP xs) = true := by simp; omega
      have H2 := Lib.hid h2
      clear h2
      go_enter Try.func52, Try.ntmps52
      go_wp2_with fail
      refine (arePieces_any _ _ _ h hl).mono ?_
      rintro e w1 ⟨rfl, b1⟩
      go_wp2_with fail
      refine (sumOfAll_any _ _ _ (h.below b1 (Nat.le_refl _)) hgood).mono ?_
      rintro e w2 ⟨rfl, b2⟩
      have b2 := nxt b1 b2
      have z2 := b2.size
      clear b1
      go_wp2_with fail
      have bb : Below w.heap.size w ((w2.alloc (.cells #[.int .i64 (sumP xs)] 39)).alloc (.cells #[.int .i64 (sumP xs / 2)] 39)) := (b2.alloc z2 _).alloc (by simp; omega) _
      have k4 : ((w2.alloc (.cells #[.int .i64 (sumP xs)] 39)).alloc (.cells #[.int .i64 (sumP xs / 2)] 39)).cell? ⟨w2.heap.size, 0, none⟩ = some (.int .i64 (sumP xs)) := by simp only [World.cell?, blk_a]; rfl
      have k5 : ((w2.alloc (.cells #[.int .i64 (sumP xs)] 39)).alloc (.cells #[.int .i64 (sumP xs / 2)] 39)).cell? ⟨w2.heap.size + 1, 0, none⟩ = some (.int .i64 (sumP xs / 2)) := by simp only [World.cell?, blk_b]; rfl
      go_region_with (go_at_call 80; refine (with_any _ _ _ (by omega) (by omega) (by omega) (by omega)).mono ?_; rintro e w3 ⟨rfl, b3⟩; have c4 : w3.cell? ⟨w2.heap.size, 0, none⟩ = some (.int .i64 (sumP xs)) := (b3.cell (p := ⟨w2.heap.size, 0, none⟩) (by show w2.heap.size < _; simp; omega)).trans (by exact k4); have c5 : w3.cell? ⟨w2.heap.size + 1, 0, none⟩ = some (.int .i64 (sumP xs / 2)) := (b3.cell (p := ⟨w2.heap.size + 1, 0, none⟩) (by show w2.heap.size + 1 < _; simp)).trans (by exact k5); have b3 := bb.trans (((Below.refl _ _).drew.trans b3).mono (by simp; omega)))
      all_goals
        go_wp2_with fail
        refine (implFirstWay_any _ _ _ _ (hsp.below b3 (Nat.le_refl _)) hl).mono ?_
        rintro e w4 ⟨u, rfl, o4, b4⟩
        go_wp2_with fail
        go_ret2
        exact ⟨_, ret_lb rfl F.out.1.symm, by rw [F.out.2]; exact o4.mono b3.size, nxt b3 b4⟩
    · have R := Lib.hid (half_odd h2)
      have d2 : (sumP xs / 2 + sumP xs / 2 == sumP xs) = false := by simp; omega
      clear h2
      go_enter Try.func52, Try.ntmps52
      go_wp2_with fail
      refine (arePieces_any _ _ _ h hl).mono ?_
      rintro e w1 ⟨rfl, b1⟩
      go_wp2_with fail
      refine (sumOfAll_any _ _ _ (h.below b1 (Nat.le_refl _)) hgood).mono ?_
      rintro e w2 ⟨rfl, b2⟩
      have b2 := nxt b1 b2
      have z2 := b2.size
      clear b1
      go_wp2_with fail
      have bb : Below w.heap.size w ((w2.alloc (.cells #[.int .i64 (sumP xs)] 39)).alloc (.cells #[.int .i64 (sumP xs / 2)] 39)) := (b2.alloc z2 _).alloc (by simp; omega) _
      have k4 : ((w2.alloc (.cells #[.int .i64 (sumP xs)] 39)).alloc (.cells #[.int .i64 (sumP xs / 2)] 39)).cell? ⟨w2.heap.size, 0, none⟩ = some (.int .i64 (sumP xs)) := by simp only [World.cell?, blk_a]; rfl
      have k5 : ((w2.alloc (.cells #[.int .i64 (sumP xs)] 39)).alloc (.cells #[.int .i64 (sumP xs / 2)] 39)).cell? ⟨w2.heap.size + 1, 0, none⟩ = some (.int .i64 (sumP xs / 2)) := by simp only [World.cell?, blk_b]; rfl
      go_region_with (go_at_call 80; refine (with_any _ _ _ (by omega) (by omega) (by omega) (by omega)).mono ?_; rintro e w3 ⟨rfl, b3⟩; have c4 : w3.cell? ⟨w2.heap.size, 0, none⟩ = some (.int .i64 (sumP xs)) := (b3.cell (p := ⟨w2.heap.size, 0, none⟩) (by show w2.heap.size < _; simp; omega)).trans (by exact k4); have c5 : w3.cell? ⟨w2.heap.size + 1, 0, none⟩ = some (.int .i64 (sumP xs / 2)) := (b3.cell (p := ⟨w2.heap.size + 1, 0, none⟩) (by show w2.heap.size + 1 < _; simp)).trans (by exact k5); have b3 := bb.trans (((Below.refl _ _).drew.trans b3).mono (by simp; omega)))
      all_goals
        go_wp2_with fail
        go_ret2
        exact ⟨_, ret_lb rfl R.out.1.symm, by rw [R.out.2]; exact ow_nil _ _, b3⟩
  · have hg : goodB xs = false := by simpa using hg
    have R := Lib.hid (half_no hg)
    go_enter Try.func52, Try.ntmps52
    go_wp2_with fail
    refine (arePieces_any _ _ _ h hl).mono ?_
    rintro e w1 ⟨rfl, b1⟩
    go_wp2_with fail
    go_ret2
    exact ⟨_, ret_lb rfl R.out.1.symm, by rw [R.out.2]; exact ow_nil _ _, b1⟩

set_option maxHeartbeats 4000000 in
theorem lawHalfOf (v : Value) (xs : List Int) (w : World) (h : Sv w v xs) (hm : xs.length ≤ 9223372036854775807) :
    Calls Try.prog 17 #[v] w fun e w' => e = .returned (.bool true) ∧ Below w.heap.size w w' := by
  have hs := h
  obtain ⟨p, cap, rfl, hx⟩ := h
  clear hx
  by_cases hbig : 1048576 < xs.length
  · go_enter Try.func17, Try.ntmps17
    go_wp2
    go_ret
    exact ⟨rfl, Below.refl _ _⟩
  · have hl : xs.length ≤ 1099511627776 := by omega
    have hyl : (halfR xs).length ≤ 1099511627776 := halfR_len _
    go_enter Try.func17, Try.ntmps17
    go_wp2_with fail
    refine (toIntS_any _ _ _ hs hl).mono ?_
    rintro e w1 ⟨u1, rfl, o1, a1', b1⟩
    go_wp2_with fail
    refine (specHalfOf_any _ _ _ (o1.sp a1') hl).mono ?_
    rintro e w2 ⟨v2, rfl, o2, b2⟩
    have z1 := b1.size
    have o2 := o2.mono z1
    have t2 := nxt b1 b2
    clear o1 b1 b2 a1'
    go_wp2_with fail
    refine (toIntS_any _ _ _ (hs.below t2 (Nat.le_refl _)) hl).mono ?_
    rintro e w3 ⟨u3, rfl, o3, a3, b3⟩
    have z2 := t2.size
    have p2 := ap_below o2 a3 (Nat.le_refl _)
    have lt3 := own_lt o3 a3
    have q2 := o2.below b3 (Nat.le_refl _)
    have t3 := nxt t2 b3
    clear b3 t2
    go_wp2_with fail
    refine (implHalfOf_any _ _ _ (o3.sp a3) hl).mono ?_
    rintro e w4 ⟨g4, rfl, o4, b4⟩
    have z3 := t3.size
    have p4 := ap_above o4 a3 lt3
    have p24 := ap_two o2 o4 (by omega)
    have o4 := o4.mono z3
    have q2 := q2.below b4 (Nat.le_refl _)
    have q3 := o3.below b4 (Nat.le_refl _)
    have t4 := nxt t3 b4
    clear o3 b4 t3 o2
    go_wp2_with fail
    refine (eqIntS_yes _ _ _ _ _ o4.sv q2.sv rfl hyl).mono ?_
    rintro e w5 ⟨rfl, b5⟩
    have o4 := o4.below b5 (Nat.le_refl _)
    have q2 := q2.below b5 (Nat.le_refl _)
    have q3 := q3.below b5 (Nat.le_refl _)
    have t5 := nxt t4 b5
    clear b5 t4
    go_wp2_with fail
    refine (toIntS_any _ _ _ (hs.below t5 (Nat.le_refl _)) hl).mono ?_
    rintro e w6 ⟨u6, rfl, o6, -, b6⟩
    have o4 := o4.below b6 (Nat.le_refl _)
    have q2 := q2.below b6 (Nat.le_refl _)
    have q3 := q3.below b6 (Nat.le_refl _)
    have t6 := nxt t5 b6
    clear b6 t5
    go_wp2_with fail
    refine (eqIntS_yes _ _ _ _ _ q3.sv o6.sv rfl hl).mono ?_
    rintro e w7 ⟨rfl, b7⟩
    have o4 := o4.below b7 (Nat.le_refl _)
    have q2 := q2.below b7 (Nat.le_refl _)
    have q3 := q3.below b7 (Nat.le_refl _)
    have t7 := nxt t6 b7
    have z7 := t7.size
    clear b7 t6 o6
    go_wp2_with fail
    refine (markIntS_any _ xs _ 1 _ q3 hl (by omega) (by omega)).mono ?_
    rintro e w8 ⟨rfl, -, g8⟩
    have o4 := o4.kept g8 p4
    have q2 := q2.kept g8 p2
    have t8 := t7.trans (q3.marked z2 (Nat.le_of_lt (own_lt q3 a3)) g8)
    have z8 := t8.size
    clear q3 g8 t7 a3
    go_wp2_with fail
    refine (eqIntS_yes _ _ _ _ _ o4.sv q2.sv rfl hyl).mono ?_
    rintro e w9 ⟨rfl, b9⟩
    have o4 := o4.below b9 (Nat.le_refl _)
    have q2 := q2.below b9 (Nat.le_refl _)
    have t9 := nxt t8 b9
    have z9 := t9.size
    clear b9 t8
    go_wp2_with fail
    refine (markIntS_any _ (halfR xs) _ 1 _ o4 hyl (by omega) (by omega)).mono ?_
    rintro e w10 ⟨rfl, o10, g10⟩
    have q2 := q2.kept g10 p24
    have t10 := t9.trans (o4.marked (Nat.le_refl _) z9 g10)
    clear o4 g10 t9
    go_wp2_with fail
    refine (heldIntS_any _ (halfR xs).length 1 _ o10.sv hyl (by omega) (by omega)).mono ?_
    rintro e w10' ⟨rfl, rfl⟩
    go_wp2_with fail
    refine (toIntS_any _ _ _ (hs.below t10 (Nat.le_refl _)) hl).mono ?_
    rintro e w11 ⟨u11, rfl, o11, a11, b11⟩
    have o10 := o10.below b11 (Nat.le_refl _)
    have q2 := q2.below b11 (Nat.le_refl _)
    have t11 := nxt t10 b11
    clear b11 t10
    go_wp2_with fail
    refine (implHalfOf_any _ _ _ (o11.sp a11) hl).mono ?_
    rintro e w12 ⟨h12, rfl, o12, b12⟩
    have o10 := o10.below b12 (Nat.le_refl _)
    have q2 := q2.below b12 (Nat.le_refl _)
    have t12 := nxt t11 b12
    clear b12 t11 o11 a11
    go_wp2_with fail
    refine (eqIntS_yes _ _ _ _ _ o12.sv q2.sv rfl hyl).mono ?_
    rintro e w13 ⟨rfl, b13⟩
    have o10 := o10.below b13 (Nat.le_refl _)
    have t13 := nxt t12 b13
    clear b13 t12 o12 q2
    go_wp2_with fail
    refine (heldIntS_any _ (halfR xs).length 1 _ o10.sv hyl (by omega) (by omega)).mono ?_
    rintro e w13' ⟨rfl, rfl⟩
    go_wp2_with fail
    go_ret
    exact ⟨rfl, t13⟩

end Go.Proofs.Ytpijogajjinedaa
