/-
  What a puzzle is and what hidden pieces are, in the model and in the program, by their contracts. Condition: at most 2^40 clues or pieces.
-/
import Derived.Test.YtphjiicdodkfbaaYac
import Derived.Test.YtphjiicdodkfbaaYmx
namespace Go.Proofs.Ytphjiicdodkfbaa
open Go.RowKit

set_option maxHeartbeats 4000000 in
theorem pzGood_any (v : Value) (cs : List Cl) (w : World) (h : Cv w v cs) (hl : cs.length ≤ 1099511627776) :
    Calls Try.prog 70 #[.agg #[v]] w fun e w' => e = .returned (.bool (pzB cs)) ∧ Below w.heap.size w w' := by
  obtain ⟨p, cap, rfl, _, _, hx⟩ := h
  have HX := Lib.hid hx
  clear hx
  by_cases h6 : cs.length ≤ 6
  · have d : decide (6 < (cs.length : Int)) = false := by simp; omega
    have e0 : pzB cs = cs.all clB := by simp [pzB, h6]
    rw [e0]
    clear e0
    have HC := Lib.hid (cells1_of (heap_alloc_new w (.cells #[.slice p cs.length cap] 39)))
    go_enter Try.func70, Try.ntmps70
    go_wp2
    go_loopw [12] (fun i wr => ∃ k : Nat, k ≤ cs.length ∧ i = .int .i64 k ∧ Hid ((cs.take k).all clB = true) ∧ Below w.heap.size w wr) (fun i _ => cs.length - (intOf i).toNat)
    case atStart => exact ⟨0, Nat.zero_le _, rfl, Lib.hid (by simp), (Below.refl _ _).alloc (Nat.le_refl _) _⟩
    case round =>
      obtain ⟨k, hk, rfl, HA, hb⟩ := hrel
      by_cases hlt : k < cs.length
      · obtain ⟨b, off, rfl, hbl, hc⟩ := HX.out (by omega)
        obtain ⟨h1, h2, h3⟩ := hc k hlt
        have g1 : wr.cell? ⟨b, off + k * 3, none⟩ = _ := (hb.cell (p := ⟨b, off + k * 3, none⟩) hbl).trans h1
        have g2 : wr.cell? ⟨b, off + k * 3 + 1, none⟩ = _ := (hb.cell (p := ⟨b, off + k * 3 + 1, none⟩) hbl).trans h2
        have g3 : wr.cell? ⟨b, off + k * 3 + 2, none⟩ = _ := (hb.cell (p := ⟨b, off + k * 3 + 2, none⟩) hbl).trans h3
        clear hc h1 h2 h3
        generalize eA : (cA cs k).k = K at g1
        generalize eB : (cA cs k).a = A at g2
        generalize eC : (cA cs k).b = B at g3
        have E : Hid (cs[k] = (⟨K, A, B⟩ : Cl)) := Lib.hid (by rw [← eA, ← eB, ← eC, cA_of hlt])
        clear eA eB eC
        have hb1 : Below w.heap.size w (wr.alloc (.cells #[.int .i64 K, .int .i64 A, .int .i64 B] 29)) := hb.alloc hb.size _
        go_wp2_with fail
        refine (pzClue_any _ _ _ _).mono ?_
        rintro e w2 ⟨rfl, b2⟩
        have hb2 := hb1.trans (b2.mono hb1.size)
        clear b2 hb1
        cases hB : clB ⟨K, A, B⟩
        · have R := Lib.hid (show cs.all clB = false by
            rw [List.all_eq_false]
            exact ⟨_, List.getElem_mem hlt, by rw [E.out, hB]; simp⟩)
          clear hB
          go_wp2_with fail
          go_ret
          exact ⟨by rw [R.out]; rfl, hb2⟩
        · have N := Lib.hid (show (cs.take (k + 1)).all clB = true by
            rw [List.take_add_one, List.getElem?_eq_getElem hlt, List.all_append, HA.out, E.out]
            simp [hB])
          clear hB HA
          go_wp2_with fail
          go_roundw
          case rel => exact ⟨k + 1, by omega, by go_num, N, hb2⟩
          case measure => simp [intOf]; omega
      · obtain rfl : k = cs.length := by omega
        have R := Lib.hid (show cs.all clB = true by have := HA.out; rwa [List.take_length] at this)
        go_wp2
        go_ret
        exact ⟨by rw [R.out]; rfl, hb⟩
  · have d : decide (6 < (cs.length : Int)) = true := by simp; omega
    have e0 : pzB cs = false := by simp [pzB, h6]
    rw [e0]
    clear e0 h6
    go_enter Try.func70, Try.ntmps70
    go_wp2
    go_ret
    exact ⟨rfl, (Below.refl _ _).alloc (Nat.le_refl _) _⟩

set_option maxHeartbeats 2000000 in
theorem specIsPuzzle_any (v : Value) (cs : List Cl) (w : World) (h : Cv w v cs) (hl : cs.length ≤ 1099511627776) :
    Calls Try.prog 27 #[.agg #[v]] w fun e w' => e = .returned (.bool (pzB cs)) ∧ Below w.heap.size w w' := by
  have b1 : Below w.heap.size w (w.alloc (.cells #[v] 39)) := (Below.refl _ _).alloc (Nat.le_refl _) _
  have PG := Lib.hid (pzGood_any v cs _ (h.below b1 (Nat.le_refl _)) hl)
  clear h
  go_enter Try.func27, Try.ntmps27
  go_wp2_with fail
  refine PG.out.mono ?_
  rintro e w2 ⟨rfl, b2⟩
  go_wp2_with fail
  go_ret
  exact ⟨rfl, nxt b1 b2⟩

set_option maxHeartbeats 2000000 in
theorem implIsPuzzle_any (v : Value) (cs : List Cl) (w : World) (h : Cv w v cs) (hl : cs.length ≤ 1099511627776) :
    Calls Try.prog 29 #[.agg #[v]] w fun e w' => e = .returned (.bool (pzB cs)) ∧ Below w.heap.size w w' := by
  have b1 : Below w.heap.size w (w.alloc (.cells #[v] 39)) := (Below.refl _ _).alloc (Nat.le_refl _) _
  have PG := Lib.hid (areClues_any v cs _ (h.below b1 (Nat.le_refl _)) hl)
  obtain ⟨p, cap, rfl⟩ := h.shape
  clear h
  by_cases h6 : cs.length ≤ 6
  · have d : decide ((cs.length : Int) ≤ 6) = true := by simp; omega
    have e0 : pzB cs = cs.all clB := by simp [pzB, h6]
    rw [e0]
    clear e0
    go_enter Try.func29, Try.ntmps29
    go_wp2_with fail
    refine PG.out.mono ?_
    rintro e w2 ⟨rfl, b2⟩
    go_wp2_with fail
    go_ret
    exact ⟨rfl, nxt b1 b2⟩
  · have d : decide ((cs.length : Int) ≤ 6) = false := by simp; omega
    have e0 : pzB cs = false := by simp [pzB, h6]
    rw [e0]
    clear e0 h6
    go_enter Try.func29, Try.ntmps29
    go_wp2
    go_ret
    exact ⟨rfl, b1⟩

theorem cv_one (w : World) (K A B : Int) : Cv (w.alloc (.cells #[.int .i64 K, .int .i64 A, .int .i64 B] 29)) (.slice (some ⟨w.heap.size, 0, none⟩) 1 1) [⟨K, A, B⟩] :=
  ⟨_, 1, rfl, Nat.le_refl _, by unfold maxLen; omega, fun _ => ⟨w.heap.size, 0, rfl, by simp, fun j hj => by
    obtain rfl : j = 0 := by simpa using hj
    exact ⟨by simp [go_sem, cA], by simp [go_sem, cA], by simp [go_sem, cA]⟩⟩⟩
theorem all_one (c : Cl) : [c].all clB = clB c := by simp

set_option maxHeartbeats 2000000 in
theorem implIsClue_any (K A B : Int) (w : World) :
    Calls Try.prog 25 #[.agg #[.int .i64 K, .int .i64 A, .int .i64 B]] w fun e w' => e = .returned (.bool (clB ⟨K, A, B⟩)) ∧ Below w.heap.size w w' := by
  have b1 : Below w.heap.size w (w.alloc (.cells #[.int .i64 K, .int .i64 A, .int .i64 B] 29)) := (Below.refl _ _).alloc (Nat.le_refl _) _
  have AC := Lib.hid (areClues_any _ _ _ (cv_one (w.alloc (.cells #[.int .i64 K, .int .i64 A, .int .i64 B] 29)) K A B) (by simp))
  simp only [World.size_alloc] at AC
  rw [all_one] at AC
  go_enter Try.func25, Try.ntmps25
  go_wp2_with fail
  refine AC.out.mono ?_
  rintro e w2 ⟨rfl, b2⟩
  go_wp2_with fail
  go_ret
  exact ⟨rfl, (b1.alloc (by simp) _).trans (b2.mono (by omega))⟩

set_option maxHeartbeats 2000000 in
theorem specIsClue_any (K A B : Int) (w : World) :
    Calls Try.prog 23 #[.agg #[.int .i64 K, .int .i64 A, .int .i64 B]] w fun e w' => e = .returned (.bool (clB ⟨K, A, B⟩)) ∧ Below w.heap.size w w' := by
  have b1 : Below w.heap.size w (w.alloc (.cells #[.int .i64 K, .int .i64 A, .int .i64 B] 29)) := (Below.refl _ _).alloc (Nat.le_refl _) _
  go_enter Try.func23, Try.ntmps23
  go_wp2_with fail
  refine (pzClue_any _ _ _ _).mono ?_
  rintro e w2 ⟨rfl, b2⟩
  go_wp2_with fail
  go_ret
  exact ⟨rfl, nxt b1 b2⟩

/-! Hidden pieces. -/
theorem hdB_long {xs : List Int} (h : ¬ xs.length ≤ 4) : hdB xs = false := by simp [hdB, h]
theorem hdB_short {xs : List Int} (h : xs.length ≤ 4) : hdB xs = (goodB xs && allB xs 1 6) := by simp [hdB, h]
theorem hd_max {xs : List Int} {m : Int} (hg : Good xs) (h : MaxTo xs xs.length m) : decide (m ≤ 6) = allB xs 1 6 := by
  by_cases e : m ≤ 6
  · rw [decide_eq_true e]
    exact (allB_yes fun j hj => inB_iff.2 ⟨(hg.2.1 j hj).1, by have := h.1 j hj; omega⟩).symm
  · rw [decide_eq_false e]
    obtain ⟨j, hj, ej⟩ := h.2
    refine (allB_no hj ?_).symm
    cases hb : inB (xs.getD j 0) 1 6
    · rfl
    · have := inB_iff.1 hb; omega

set_option maxHeartbeats 2000000 in
theorem pzHidden_any (v : Value) (xs : List Int) (w : World) (h : Sv w v xs) (_hl : xs.length ≤ 1099511627776) :
    Calls Try.prog 64 #[v] w fun e w' => e = .returned (.bool (hdB xs)) ∧ Below w.heap.size w w' := by
  by_cases h4 : xs.length ≤ 4
  · have PG := Lib.hid (piGood_any v xs w h (by omega))
    have LA := Lib.hid (fun W (hb : Below w.heap.size w W) => l1All_any v xs 1 6 W (h.below hb (Nat.le_refl _)) (by omega))
    obtain ⟨p, cap, rfl, _⟩ := h
    have d : decide ((xs.length : Int) ≤ 4) = true := by simp; omega
    rw [hdB_short h4]
    generalize goodB xs = G at *
    generalize allB xs 1 6 = L at *
    cases G
    · go_enter Try.func64, Try.ntmps64
      go_wp2_with fail
      refine PG.out.mono ?_
      rintro e w2 ⟨rfl, b2⟩
      go_wp2_with fail
      go_ret
      exact ⟨rfl, b2⟩
    · go_enter Try.func64, Try.ntmps64
      go_wp2_with fail
      refine PG.out.mono ?_
      rintro e w2 ⟨rfl, b2⟩
      go_wp2_with fail
      refine (LA.out w2 b2).mono ?_
      rintro e w3 ⟨rfl, rfl⟩
      go_wp2_with fail
      go_ret
      exact ⟨rfl, b2⟩
  · have d : decide ((xs.length : Int) ≤ 4) = false := by simp; omega
    obtain ⟨p, cap, rfl, _⟩ := h
    rw [hdB_long h4]
    clear h4
    go_enter Try.func64, Try.ntmps64
    go_wp2
    go_ret
    exact ⟨rfl, Below.refl _ _⟩

set_option maxHeartbeats 2000000 in
theorem implIsHidden_any (v : Value) (xs : List Int) (w : World) (h : Sv w v xs) (_hl : xs.length ≤ 1099511627776) :
    Calls Try.prog 21 #[v] w fun e w' => e = .returned (.bool (hdB xs)) ∧ Below w.heap.size w w' := by
  by_cases h4 : xs.length ≤ 4
  · have PG := Lib.hid (arePieces_any v xs w h (by omega))
    have HM := Lib.hid (fun W (hb : Below w.heap.size w W) (h1 : 1 ≤ xs.length) => max_any v xs W (h.below hb (Nat.le_refl _)) h1 (by omega))
    obtain ⟨p, cap, rfl, _⟩ := h
    have d : decide ((xs.length : Int) ≤ 4) = true := by simp; omega
    rw [hdB_short h4]
    have hgood := Lib.hid (fun (h : goodB xs = true) => goodB_iff.1 h)
    generalize goodB xs = G at *
    cases G
    · clear hgood
      go_enter Try.func21, Try.ntmps21
      go_wp2_with fail
      refine PG.out.mono ?_
      rintro e w2 ⟨rfl, b2⟩
      go_wp2_with fail
      go_ret
      exact ⟨rfl, b2⟩
    · have hg := hgood.out rfl
      by_cases h0 : xs.length = 0
      · have e0 : xs = [] := List.length_eq_zero_iff.1 h0
        subst e0
        clear hgood hg h0 HM
        have e1 : (true && allB [] 1 6) = true := rfl
        rw [e1]
        go_enter Try.func21, Try.ntmps21
        go_wp2_with fail
        refine PG.out.mono ?_
        rintro e w2 ⟨rfl, b2⟩
        go_wp2_with fail
        go_ret
        exact ⟨rfl, b2⟩
      · have d0 : ((xs.length : Int) == 0) = false := by simpa using h0
        have MX := Lib.hid (fun m (h : MaxTo xs xs.length m) => hd_max hg h)
        have H1 := Lib.hid (show 1 ≤ xs.length by omega)
        clear hg hgood h0 h4
        rw [Bool.true_and]
        go_enter Try.func21, Try.ntmps21
        go_wp2_with fail
        refine PG.out.mono ?_
        rintro e w2 ⟨rfl, b2⟩
        go_wp2_with fail
        refine (HM.out w2 b2 H1.out).mono ?_
        rintro e w3 ⟨⟨m, rfl, hm⟩, rfl⟩
        have R := MX.out m hm
        clear hm
        go_wp2_with fail
        go_ret
        exact ⟨by first | rfl | exact ret_bool R, b2⟩
  · have d : decide ((xs.length : Int) ≤ 4) = false := by simp; omega
    obtain ⟨p, cap, rfl, _⟩ := h
    rw [hdB_long h4]
    clear h4
    go_enter Try.func21, Try.ntmps21
    go_wp2
    go_ret
    exact ⟨rfl, Below.refl _ _⟩

set_option maxHeartbeats 2000000 in
theorem specIsHidden_any (v : Value) (xs : List Int) (w : World) (h : Sv w v xs) (hl : xs.length ≤ 1099511627776) :
    Calls Try.prog 19 #[v] w fun e w' => e = .returned (.bool (hdB xs)) ∧ Below w.heap.size w w' := by
  go_enter Try.func19, Try.ntmps19
  go_wp2_with fail
  refine (pzHidden_any _ _ _ h hl).mono ?_
  rintro e w2 ⟨rfl, b2⟩
  go_wp2_with fail
  go_ret
  exact ⟨rfl, b2⟩
end Go.Proofs.Ytphjiicdodkfbaa
