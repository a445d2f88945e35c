/-
  The clue of a kind about pieces, in the program, by its contract. Conditions: pieces; a kind of 0 to 5; a sum or length of 0 to 200,000.
-/
import Derived.Test.YtphjiicdodkfbaaYvb
namespace Go.Proofs.Ytphjiicdodkfbaa
open Go.RowKit
set_option linter.unusedVariables false

set_option maxHeartbeats 4000000 in
theorem piecesOf_any (v : Value) (xs : List Int) (a : Int) (w : World) (h : Sv w v xs) (hl : xs.length ≤ 20) :
    Calls Try.prog 80 #[v, .int .i64 a] w fun e w' => e = .returned (.int .i64 (cntL xs a)) ∧ Below w.heap.size w w' := by
  obtain ⟨p, cap, rfl, hx⟩ := h
  have HX := Lib.hid hx
  have R := Lib.hid (show cntL xs a = cntL xs a from rfl)
  clear hx
  generalize hC : cntL xs a = C at *
  have HC := Lib.hid hC
  clear hC R
  go_enter Try.func80, Try.ntmps80
  go_wp2
  go_loop [5, 10] (fun n i => ∃ (j : Nat) (c : Int), j ≤ xs.length ∧ i = .int .i64 j ∧ n = .int .i64 c ∧ 0 ≤ c ∧ c ≤ 20 ∧ Hid (c = cntL (xs.take j) a)) (fun _ i => xs.length - (intOf i).toNat)
  case atStart => exact ⟨0, 0, Nat.zero_le _, rfl, rfl, by omega, by omega, Lib.hid (by simp [cntL])⟩
  case round =>
    obtain ⟨j, c, hj, rfl, rfl, hc0, hc1, HR⟩ := hrel
    by_cases hlt : j < xs.length
    · obtain ⟨b, off, rfl, hbl, hc⟩ := HX.out (by omega)
      have hcell := hc j hlt
      have ST := cntL_step hlt a
      have BD := cntL_bd (xs.take (j + 1)) a
      rw [List.length_take] at BD
      clear hc
      obtain ⟨y, ey⟩ : ∃ y, xs.getD j 0 = y := ⟨_, rfl⟩
      rw [ey] at hcell ST
      clear ey
      by_cases hy : y = a
      · rw [if_pos hy, ← HR.out] at ST
        have d : (y == a) = true := by simpa using hy
        rw [ST] at BD
        have N := Lib.hid ST.symm
        clear ST
        subst hy
        go_wp2
        go_round
        case rel => exact ⟨j + 1, c + 1, by omega, by go_num, by go_num, by omega, by omega, N⟩
        case measure => simp [intOf]; omega
      · rw [if_neg hy, ← HR.out, Int.add_zero] at ST
        have d : (y == a) = false := by simpa using hy
        have N := Lib.hid ST.symm
        clear ST BD hy
        go_wp2
        go_round
        case rel => exact ⟨j + 1, c, by omega, by go_num, rfl, by omega, by omega, N⟩
        case measure => simp [intOf]; omega
    · obtain rfl : j = xs.length := by omega
      have e : c = C := by rw [HR.out, List.take_length]; exact HC.out
      subst e
      go_wp2
      go_ret
      exact ⟨rfl, Below.refl _ _⟩

theorem sum_min {xs : List Int} (hg : Good xs) {a : Int} (ha : 0 ≤ a) : (sumB (top xs + 1) (fun j => Wy xs j) a = true ∧ min 1 (Wy xs a) = 1) ∨ (sumB (top xs + 1) (fun j => Wy xs j) a = false ∧ min 1 (Wy xs a) = 0) := by
  have hb := Wy_bd20 xs a hg.len
  have e : ((a.toNat : Nat) : Int) = a := by omega
  by_cases hz : Wy xs a = 0
  · exact .inr ⟨by simp [sumB, e, hz], by omega⟩
  · have ht := hg.top
    have hlt : a < ((top xs + 1 : Nat) : Int) := by
      have : ¬ sumP xs < a := fun h => hz (Wy_big xs a hg.mem h)
      omega
    exact .inl ⟨by simp only [sumB, e, decide_eq_true hlt]; simpa using hz, by omega⟩


set_option maxHeartbeats 4000000 in
theorem clueAbout_0 (a : Int) (v : Value) (xs : List Int) (w : World) (h : Sv w v xs) (hg : Good xs) (ha : 0 ≤ a) (ha2 : a ≤ 200000) :
    Calls Try.prog 95 #[v, .int .i64 0, .int .i64 a] w fun e w' => e = .returned (.agg #[.int .i64 (abL 0 a xs).k, .int .i64 (abL 0 a xs).a, .int .i64 (abL 0 a xs).b]) ∧ Below w.heap.size w w' := by
  rw [show abL 0 a xs = ⟨0, (xs.length : Int), 0⟩ from rfl]
  obtain ⟨p, cap, rfl, _⟩ := h
  clear hg
  go_enter Try.func95, Try.ntmps95
  go_wp2
  exact bodyPost_ret (v := .agg #[.int .i64 0, .int .i64 xs.length, .int .i64 0]) (by simp [results, Try.results95, go_sem]) rfl ⟨rfl, ((Below.refl _ _).alloc (Nat.le_refl _) _).alloc (by simp) _⟩

set_option maxHeartbeats 4000000 in
theorem clueAbout_1 (a : Int) (v : Value) (xs : List Int) (w : World) (h : Sv w v xs) (hg : Good xs) (ha : 0 ≤ a) (ha2 : a ≤ 200000) :
    Calls Try.prog 95 #[v, .int .i64 1, .int .i64 a] w fun e w' => e = .returned (.agg #[.int .i64 (abL 1 a xs).k, .int .i64 (abL 1 a xs).a, .int .i64 (abL 1 a xs).b]) ∧ Below w.heap.size w w' := by
  have hfld := field_sum
  rw [show abL 1 a xs = ⟨1, sumP xs, 0⟩ from rfl]
  have b1 : Below w.heap.size w ((w.alloc (.cells #[.int .i64 0, .int .i64 0, .int .i64 0] 29)).alloc (.cells #[.int .i64 1, .int .i64 a, .int .i64 0] 29)) := ((Below.refl _ _).alloc (Nat.le_refl _) _).alloc (by simp) _
  have H1 := Lib.hid (blk_a w (.cells #[.int .i64 0, .int .i64 0, .int .i64 0] 29) (.cells #[.int .i64 1, .int .i64 a, .int .i64 0] 29))
  have H2 := Lib.hid (blk_b w (.cells #[.int .i64 0, .int .i64 0, .int .i64 0] 29) (.cells #[.int .i64 1, .int .i64 a, .int .i64 0] 29))
  have HS := Lib.hid (h.below b1 (Nat.le_refl _))
  have HB1 := Lib.hid b1
  clear h b1
  go_enter Try.func95, Try.ntmps95
  go_wp2_with fail
  refine (sumOfAll_any _ _ _ HS.out hg).mono ?_
  rintro e w2 ⟨rfl, b2⟩
  have zz := b2.size
  simp only [World.size_alloc] at zz
  obtain ⟨c1, c2, c3, f1, f2, f3⟩ := cells3_of ((b2.block _ (by simp only [World.size_alloc]; omega)).trans H1.out)
  obtain ⟨k1, k2, k3, g1, g2, g3⟩ := cells3_of ((b2.block _ (by simp only [World.size_alloc]; omega)).trans H2.out)
  have HB := Lib.hid (HB1.out.trans (b2.mono (by simp only [World.size_alloc]; omega)))
  clear b2
  have hs1 : w.heap.size < w2.heap.size := by omega
  have hs2 : w.heap.size + 1 < w2.heap.size := by omega
  go_wp2_with fail
  exact bodyPost_ret (v := .agg #[.int .i64 1, .int .i64 (sumP xs), .int .i64 0]) (by simp [results, Try.results95, go_sem, c1, c2, c3]) rfl ⟨rfl, below3 (HB.out.setCell (by simp) _) (Nat.le_refl _) _ _ _ _ _ _⟩

set_option maxHeartbeats 4000000 in
theorem clueAbout_3 (a : Int) (v : Value) (xs : List Int) (w : World) (h : Sv w v xs) (hg : Good xs) (ha : 0 ≤ a) (ha2 : a ≤ 200000) :
    Calls Try.prog 95 #[v, .int .i64 3, .int .i64 a] w fun e w' => e = .returned (.agg #[.int .i64 (abL 3 a xs).k, .int .i64 (abL 3 a xs).a, .int .i64 (abL 3 a xs).b]) ∧ Below w.heap.size w w' := by
  rw [show abL 3 a xs = ⟨3, runP xs, 0⟩ from rfl]
  have b1 : Below w.heap.size w ((w.alloc (.cells #[.int .i64 0, .int .i64 0, .int .i64 0] 29)).alloc (.cells #[.int .i64 3, .int .i64 a, .int .i64 0] 29)) := ((Below.refl _ _).alloc (Nat.le_refl _) _).alloc (by simp) _
  have H1 := Lib.hid (blk_a w (.cells #[.int .i64 0, .int .i64 0, .int .i64 0] 29) (.cells #[.int .i64 3, .int .i64 a, .int .i64 0] 29))
  have H2 := Lib.hid (blk_b w (.cells #[.int .i64 0, .int .i64 0, .int .i64 0] 29) (.cells #[.int .i64 3, .int .i64 a, .int .i64 0] 29))
  have HS := Lib.hid (h.below b1 (Nat.le_refl _))
  have HB1 := Lib.hid b1
  clear h b1
  go_enter Try.func95, Try.ntmps95
  go_wp2_with fail
  refine (runOf_any _ _ _ HS.out hg).mono ?_
  rintro e w2 ⟨rfl, rfl⟩
  go_wp2_with fail
  exact bodyPost_ret (v := .agg #[.int .i64 3, .int .i64 (runP xs), .int .i64 0]) (by simp [results, Try.results95, go_sem]) rfl ⟨rfl, ((Below.refl _ _).alloc (Nat.le_refl _) _).alloc (by simp) _⟩

set_option maxHeartbeats 4000000 in
theorem clueAbout_5 (a : Int) (v : Value) (xs : List Int) (w : World) (h : Sv w v xs) (hg : Good xs) (ha : 0 ≤ a) (ha2 : a ≤ 200000) :
    Calls Try.prog 95 #[v, .int .i64 5, .int .i64 a] w fun e w' => e = .returned (.agg #[.int .i64 (abL 5 a xs).k, .int .i64 (abL 5 a xs).a, .int .i64 (abL 5 a xs).b]) ∧ Below w.heap.size w w' := by
  rw [show abL 5 a xs = ⟨5, a, cntL xs a⟩ from rfl]
  have b1 : Below w.heap.size w ((w.alloc (.cells #[.int .i64 0, .int .i64 0, .int .i64 0] 29)).alloc (.cells #[.int .i64 5, .int .i64 a, .int .i64 0] 29)) := ((Below.refl _ _).alloc (Nat.le_refl _) _).alloc (by simp) _
  have H1 := Lib.hid (blk_a w (.cells #[.int .i64 0, .int .i64 0, .int .i64 0] 29) (.cells #[.int .i64 5, .int .i64 a, .int .i64 0] 29))
  have H2 := Lib.hid (blk_b w (.cells #[.int .i64 0, .int .i64 0, .int .i64 0] 29) (.cells #[.int .i64 5, .int .i64 a, .int .i64 0] 29))
  have HS := Lib.hid (h.below b1 (Nat.le_refl _))
  have HB1 := Lib.hid b1
  clear h b1
  go_enter Try.func95, Try.ntmps95
  go_wp2_with fail
  refine (piecesOf_any _ _ _ _ HS.out hg.len).mono ?_
  rintro e w2 ⟨rfl, b2⟩
  have zz := b2.size
  simp only [World.size_alloc] at zz
  obtain ⟨c1, c2, c3, f1, f2, f3⟩ := cells3_of ((b2.block _ (by simp only [World.size_alloc]; omega)).trans H1.out)
  obtain ⟨k1, k2, k3, g1, g2, g3⟩ := cells3_of ((b2.block _ (by simp only [World.size_alloc]; omega)).trans H2.out)
  have HB := Lib.hid (HB1.out.trans (b2.mono (by simp only [World.size_alloc]; omega)))
  clear b2
  have hs1 : w.heap.size < w2.heap.size := by omega
  have hs2 : w.heap.size + 1 < w2.heap.size := by omega
  go_wp2_with fail
  exact bodyPost_ret (v := .agg #[.int .i64 5, .int .i64 a, .int .i64 (cntL xs a)]) (by simp [results, Try.results95, go_sem, c1, c2, c3]) rfl ⟨rfl, below3 (HB.out.setCell (by simp) _) (Nat.le_refl _) _ _ _ _ _ _⟩

set_option maxHeartbeats 4000000 in
theorem clueAbout_2 (a : Int) (v : Value) (xs : List Int) (w : World) (h : Sv w v xs) (hg : Good xs) (ha : 0 ≤ a) (ha2 : a ≤ 200000) :
    Calls Try.prog 95 #[v, .int .i64 2, .int .i64 a] w fun e w' => e = .returned (.agg #[.int .i64 (abL 2 a xs).k, .int .i64 (abL 2 a xs).a, .int .i64 (abL 2 a xs).b]) ∧ Below w.heap.size w w' := by
  rw [show abL 2 a xs = ⟨2, a, min 1 (Wy xs a)⟩ from rfl]
  have b1 : Below w.heap.size w ((w.alloc (.cells #[.int .i64 0, .int .i64 0, .int .i64 0] 29)).alloc (.cells #[.int .i64 2, .int .i64 a, .int .i64 0] 29)) := ((Below.refl _ _).alloc (Nat.le_refl _) _).alloc (by simp) _
  have H1 := Lib.hid (blk_a w (.cells #[.int .i64 0, .int .i64 0, .int .i64 0] 29) (.cells #[.int .i64 2, .int .i64 a, .int .i64 0] 29))
  have H2 := Lib.hid (blk_b w (.cells #[.int .i64 0, .int .i64 0, .int .i64 0] 29) (.cells #[.int .i64 2, .int .i64 a, .int .i64 0] 29))
  have HS := Lib.hid (h.below b1 (Nat.le_refl _))
  have HB1 := Lib.hid b1
  clear h b1
  rcases sum_min hg ha with ⟨hB, hM⟩ | ⟨hB, hM⟩
  all_goals
    rw [hM]
    clear hM
    go_enter Try.func95, Try.ntmps95
    go_wp2_with fail
    refine (tableOf_any _ _ _ HS.out hg).mono ?_
    rintro e w2 ⟨g, rfl, hgs, htb, b2⟩
    go_wp2_with fail
    refine (isSum_any g _ _ _ _ a _ htb (whole_of xs) ha (by have := hg.top; omega)).mono ?_
    rintro e w2' ⟨rfl, rfl⟩
    rw [hB]
    clear htb hB hgs
    have zz := b2.size
    simp only [World.size_alloc] at zz
    obtain ⟨c1, c2, c3, f1, f2, f3⟩ := cells3_of ((b2.block _ (by simp only [World.size_alloc]; omega)).trans H1.out)
    obtain ⟨k1, k2, k3, g1, g2, g3⟩ := cells3_of ((b2.block _ (by simp only [World.size_alloc]; omega)).trans H2.out)
    have HB := Lib.hid (HB1.out.trans (b2.mono (by simp only [World.size_alloc]; omega)))
    clear b2
    have hs1 : w.heap.size < w2.heap.size := by omega
    have hs2 : w.heap.size + 1 < w2.heap.size := by omega
    go_wp2_with fail
  · exact bodyPost_ret (v := .agg #[.int .i64 2, .int .i64 a, .int .i64 1]) (by simp [results, Try.results95, go_sem, c1, c2, c3]) rfl ⟨rfl, below3 (HB.out.setCell (by simp) _) (Nat.le_refl _) _ _ _ _ _ _⟩
  · exact bodyPost_ret (v := .agg #[.int .i64 2, .int .i64 a, .int .i64 0]) (by simp [results, Try.results95, go_sem, c1, c2, c3]) rfl ⟨rfl, below3 HB.out (Nat.le_refl _) _ _ _ _ _ _⟩

set_option maxHeartbeats 4000000 in
theorem clueAbout_4 (a : Int) (v : Value) (xs : List Int) (w : World) (h : Sv w v xs) (hg : Good xs) (ha : 0 ≤ a) (ha2 : a ≤ 200000) :
    Calls Try.prog 95 #[v, .int .i64 4, .int .i64 a] w fun e w' => e = .returned (.agg #[.int .i64 (abL 4 a xs).k, .int .i64 (abL 4 a xs).a, .int .i64 (abL 4 a xs).b]) ∧ Below w.heap.size w w' := by
  have hmd := (md_yes (askB_yes (goodB_yes hg) (inB_iff.2 ⟨ha, ha2⟩))).1
  rw [show abL 4 a xs = ⟨4, a, Wy xs a⟩ from rfl, ← hmd]
  clear hmd
  have b1 : Below w.heap.size w ((w.alloc (.cells #[.int .i64 0, .int .i64 0, .int .i64 0] 29)).alloc (.cells #[.int .i64 4, .int .i64 a, .int .i64 0] 29)) := ((Below.refl _ _).alloc (Nat.le_refl _) _).alloc (by simp) _
  have H1 := Lib.hid (blk_a w (.cells #[.int .i64 0, .int .i64 0, .int .i64 0] 29) (.cells #[.int .i64 4, .int .i64 a, .int .i64 0] 29))
  have H2 := Lib.hid (blk_b w (.cells #[.int .i64 0, .int .i64 0, .int .i64 0] 29) (.cells #[.int .i64 4, .int .i64 a, .int .i64 0] 29))
  have HS := Lib.hid (h.below b1 (Nat.le_refl _))
  have HB1 := Lib.hid b1
  clear h b1
  go_enter Try.func95, Try.ntmps95
  go_wp2_with fail
  refine (madeOf_any _ _ _ _ HS.out (by have := hg.len; omega)).mono ?_
  rintro e w2 ⟨rfl, b2⟩
  have zz := b2.size
  simp only [World.size_alloc] at zz
  obtain ⟨c1, c2, c3, f1, f2, f3⟩ := cells3_of ((b2.block _ (by simp only [World.size_alloc]; omega)).trans H1.out)
  obtain ⟨k1, k2, k3, g1, g2, g3⟩ := cells3_of ((b2.block _ (by simp only [World.size_alloc]; omega)).trans H2.out)
  have HB := Lib.hid (HB1.out.trans (b2.mono (by simp only [World.size_alloc]; omega)))
  clear b2
  have hs1 : w.heap.size < w2.heap.size := by omega
  have hs2 : w.heap.size + 1 < w2.heap.size := by omega
  go_wp2_with fail
  exact bodyPost_ret (v := .agg #[.int .i64 4, .int .i64 a, .int .i64 (mdA xs a)]) (by simp [results, Try.results95, go_sem, hs1, c1, c2, c3]) rfl ⟨rfl, (below3 (HB.out.setCell (Nat.le_succ _) _) (Nat.le_refl _) _ _ _ _ _ _).alloc (by have := HB.out.size; simpa using this) _⟩

theorem clueAbout_any (k a : Int) (v : Value) (xs : List Int) (w : World) (h : Sv w v xs) (hg : Good xs) (hk : 0 ≤ k ∧ k ≤ 5) (ha : 0 ≤ a) (ha2 : a ≤ 200000) :
    Calls Try.prog 95 #[v, .int .i64 k, .int .i64 a] w fun e w' => e = .returned (.agg #[.int .i64 (abL k a xs).k, .int .i64 (abL k a xs).a, .int .i64 (abL k a xs).b]) ∧ Below w.heap.size w w' := by
  obtain e | e | e | e | e | e := k_cases hk <;> subst e
  · exact clueAbout_0 a v xs w h hg ha ha2
  · exact clueAbout_1 a v xs w h hg ha ha2
  · exact clueAbout_2 a v xs w h hg ha ha2
  · exact clueAbout_3 a v xs w h hg ha ha2
  · exact clueAbout_4 a v xs w h hg ha ha2
  · exact clueAbout_5 a v xs w h hg ha ha2
end Go.Proofs.Ytphjiicdodkfbaa
