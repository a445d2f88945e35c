/-
  The law on NeedlessPieces, walked: the model and the program give the same pieces. No condition but a length that fits int.
-/
import Derived.Test.YtpijogajjinedaaTake
namespace Go.Proofs.Ytpijogajjinedaa
open Go.RowKit

theorem rm_at {xs : List Int} {i : Nat} (hi : i < xs.length) (j : Nat) : (rmAt xs i).getD j 0 = if j < i then xs.getD j 0 else xs.getD (j + 1) 0 := by
  simp only [rmAt, List.getD_eq_getElem?_getD]
  by_cases h : j < i
  · rw [if_pos h, List.getElem?_append_left (by simp; omega), List.getElem?_take, if_pos h]
  · rw [if_neg h, List.getElem?_append_right (by simp; omega), List.getElem?_drop]
    congr 2
    simp; omega
theorem Good.rm {xs : List Int} (h : Good xs) {i : Nat} (hi : i < xs.length) : Good (rmAt xs i) := by
  have hl := rm_len hi
  refine ⟨by have := h.len; omega, fun j hj => ?_, fun j hj => ?_⟩
  · rw [rm_at hi]
    split
    · exact h.2.1 j (by omega)
    · exact h.2.1 (j + 1) (by omega)
  · rw [rm_at hi, rm_at hi]
    split
    · split
      · exact h.2.2 j (by omega)
      · exact h.le (by omega) (by omega)
    · rw [if_neg (by omega)]
      exact h.2.2 (j + 1) (by omega)
/-- The piece i is asked about, and the run without it is the same. -/
def needC (xs : List Int) (i : Nat) : Bool := !(decide (0 < i) && (xs.getD (i - 1) 0 == xs.getD i 0)) && (runP (rmAt xs i) == runP xs)
def needTo (xs : List Int) : Nat → List Int
  | 0 => []
  | k + 1 => needTo xs k ++ (if needC xs k = true then [xs.getD k 0] else [])
theorem needTo_yes {xs : List Int} {k : Nat} {x : Int} (h : needC xs k = true) (hx : xs.getD k 0 = x) : needTo xs (k + 1) = needTo xs k ++ [x] := by rw [needTo, if_pos h, hx]
theorem needTo_no {xs : List Int} {k : Nat} (h : needC xs k = false) : needTo xs (k + 1) = needTo xs k := by rw [needTo, if_neg (by simp [h]), List.append_nil]
theorem needTo_len (xs : List Int) : ∀ k, (needTo xs k).length ≤ k := by
  intro k
  induction k with
  | zero => simp [needTo]
  | succ k ih => simp only [needTo, List.length_append]; split <;> simp <;> omega
theorem needC_same {xs : List Int} {m : Nat} (h : xs.getD m 0 = xs.getD (m + 1) 0) : needC xs (m + 1) = false := by
  have e : (xs.getD (m + 1 - 1) 0 == xs.getD (m + 1) 0) = true := by rw [Nat.add_sub_cancel]; simpa using h
  unfold needC
  rw [e]
  simp
theorem needC_run {xs : List Int} {i : Nat} (h : i = 0 ∨ xs.getD (i - 1) 0 ≠ xs.getD i 0) : needC xs i = (runP (rmAt xs i) == runP xs) := by
  have e : (decide (0 < i) && (xs.getD (i - 1) 0 == xs.getD i 0)) = false := by
    rcases h with rfl | h
    · rfl
    · simp only [Bool.and_eq_false_iff]; right; simpa using h
  unfold needC
  rw [e]
  simp
theorem first_of {xs : List Int} {i : Nat} (hg : Good xs) (hi : i < xs.length) (h : i = 0 ∨ xs.getD (i - 1) 0 ≠ xs.getD i 0) : First xs (xs.getD i 0) i := by
  refine ⟨hi, rfl, fun j hj => ?_⟩
  rcases h with rfl | h
  · omega
  · have a := hg.le (show j ≤ i - 1 by omega) (by omega)
    have b := hg.le (show i - 1 ≤ i by omega) hi
    omega
noncomputable def needR (xs : List Int) : List Int := if goodB xs = true then needTo xs xs.length else []
theorem needR_yes {xs : List Int} (h : goodB xs = true) : needR xs = needTo xs xs.length := by simp [needR, h]
theorem needR_no {xs : List Int} (h : goodB xs = false) : needR xs = [] := by simp [needR, h]
theorem needR_len (xs : List Int) : (needR xs).length ≤ 1099511627776 := by
  unfold needR
  by_cases h : goodB xs = true
  · rw [if_pos h]
    have := needTo_len xs xs.length
    have := (goodB_iff.1 h).len
    omega
  · rw [if_neg h]; simp
theorem without_int (v : Value) (xs : List Int) (k : Nat) (n : Int) (w : World) (hn : n = (k : Int)) (h : Sp w v xs) (hl : xs.length ≤ 20) (hk : k < xs.length) :
    Calls Try.prog 79 #[v, .int .i64 n] w fun e w' => ∃ u, e = .returned u ∧ Ow w' w.heap.size u (rmAt xs k) ∧ Below w.heap.size w w' := by
  subst hn
  exact without_any v xs k w h hl hk

set_option maxHeartbeats 8000000 in
set_option maxRecDepth 100000 in
theorem specNeedlessPieces_any (v : Value) (xs : List Int) (w : World) (h : Sp w v xs) (hl : xs.length ≤ 1099511627776) :
    Calls Try.prog 47 #[v] w fun e w' => ∃ u, e = .returned (.tuple #[u, .bool (goodB xs)]) ∧ Ow w' w.heap.size u (needR xs) ∧ Below w.heap.size w w' := by
  have hsp := h
  have hs := h.sv
  obtain ⟨b, off, cap, rfl, _, _, hbl, hc⟩ := h
  by_cases hg : Good xs
  · have hgb := goodB_yes hg
    have HR := Lib.hid (needR_yes hgb)
    have hl20 := hg.len
    have HC := Lib.hid hc
    clear hc
    go_enter Try.func47, Try.ntmps47
    go_wp2_with fail
    refine (piGood_any _ _ _ hs hl).mono ?_
    rintro e w1 ⟨rfl, b1⟩
    have h1 := hsp.below b1 (Nat.le_refl _)
    go_wp2_with fail
    go_loopw [4, 14] (fun a i wr => ∃ k : Nat, k ≤ xs.length ∧ i = .int .i64 k ∧ Ow wr w.heap.size a (needTo xs k) ∧ Below w.heap.size w wr) (fun _ i _ => xs.length - (intOf i).toNat)
    case atStart => exact ⟨0, by omega, rfl, ow_nil _ _, b1⟩
    case round =>
      clear h1 b1
      obtain ⟨k, hk, rfl, ho, hb⟩ := hrel
      by_cases hlt : k < xs.length
      · have hS := hsp.below hb (Nat.le_refl _)
        have hcell := (hb.cell (p := ⟨b, off + k, none⟩) hbl).trans (HC.out k hlt)
        obtain ⟨x, ex⟩ : ∃ x, xs.getD k 0 = x := ⟨_, rfl⟩
        rw [ex] at hcell
        have EX := Lib.hid ex
        clear ex
        have hrm := hg.rm hlt
        by_cases hk0 : k = 0
        · subst hk0
          rw [Nat.add_zero] at hcell
          have NC := Lib.hid (needC_run (xs := xs) (i := 0) (.inl rfl))
          have TK := Lib.hid (take_yes (first_of hg hlt (.inl rfl)))
          rw [EX.out] at TK
          have hsz := needTo_len xs (0)
          by_cases hr : runP (rmAt xs (0)) = runP xs
          · have dr : (runP (rmAt xs (0)) == runP xs) = true := by simpa using hr
            have NT := Lib.hid (needTo_yes (NC.out.trans dr) EX.out)
            clear hr
            go_wp2_with fail
            refine (piTake_any _ _ _ _ hS hg).mono ?_
            rintro e w2 ⟨u2, rfl, o2, b2⟩
            rw [TK.out.2] at o2
            have o2s := o2.sv
            have ho2 := ho.below b2 (Nat.le_refl _)
            have hb2 := hb.trans (b2.mono hb.size)
            have hS2 := hS.below b2 (Nat.le_refl _)
            clear o2 b2 ho hb hS
            go_wp2_with fail
            refine (piRun_any _ _ _ o2s hrm).mono ?_
            rintro e w2' ⟨rfl, rfl⟩
            go_wp2_with fail
            refine (piRun_any _ _ _ hS2.sv hg).mono ?_
            rintro e w2' ⟨rfl, rfl⟩
            have z2 := hb2.size
            go_wp2_with (at_builtin; refine wpList_append_src rfl _ _ rfl w.heap.size _ (needTo xs (0)) rfl (ho2.alloc _) _ [x] rfl (src_one _ _) (by simp only [List.length_cons, List.length_nil]; omega) (by simp; omega) ?_; intro v' w3 h3 g3)
            have b3 := (hb2.alloc z2 _).trans ((ho2.alloc _).grown (by simp; omega) g3)
            clear ho2 g3
            go_roundw
            case rel => exact ⟨0 + 1, by omega, by go_num, by rw [NT.out]; exact h3, b3⟩
            case measure => simp only [intOf]; omega
          · have dr : (runP (rmAt xs (0)) == runP xs) = false := by simpa using hr
            have NT := Lib.hid (needTo_no (NC.out.trans dr))
            clear hr
            go_wp2_with fail
            refine (piTake_any _ _ _ _ hS hg).mono ?_
            rintro e w2 ⟨u2, rfl, o2, b2⟩
            rw [TK.out.2] at o2
            have o2s := o2.sv
            have ho2 := ho.below b2 (Nat.le_refl _)
            have hb2 := hb.trans (b2.mono hb.size)
            have hS2 := hS.below b2 (Nat.le_refl _)
            clear o2 b2 ho hb hS
            go_wp2_with fail
            refine (piRun_any _ _ _ o2s hrm).mono ?_
            rintro e w2' ⟨rfl, rfl⟩
            go_wp2_with fail
            refine (piRun_any _ _ _ hS2.sv hg).mono ?_
            rintro e w2' ⟨rfl, rfl⟩
            go_wp2_with fail
            go_roundw
            case rel => exact ⟨0 + 1, by omega, by go_num, by rw [NT.out]; exact ho2, hb2⟩
            case measure => simp only [intOf]; omega
        · obtain ⟨m, rfl⟩ : ∃ m, k = m + 1 := ⟨k - 1, by omega⟩
          have hcell2 := (hb.cell (p := ⟨b, off + m, none⟩) hbl).trans (HC.out m (by omega))
          obtain ⟨y, ey⟩ : ∃ y, xs.getD m 0 = y := ⟨_, rfl⟩
          rw [ey] at hcell2
          have EY := Lib.hid ey
          have d1 : decide ((0 : Int) < (m : Int) + 1) = true := by simp only [decide_eq_true_eq]; omega
          clear ey hk0
          by_cases hxy : y = x
          · have d2 : (y == x) = true := by simpa using hxy
            have NT := Lib.hid (needTo_no (needC_same (xs := xs) (m := m) (by rw [EX.out, EY.out]; exact hxy)))
            clear hxy
            go_wp2_with fail
            go_roundw
            case rel => exact ⟨m + 2, by omega, by go_num, by rw [show m + 2 = m + 1 + 1 from rfl, NT.out]; exact ho, hb⟩
            case measure => simp only [intOf]; omega
          · have d2 : (y == x) = false := by simpa using hxy
            have hne : xs.getD (m + 1 - 1) 0 ≠ xs.getD (m + 1) 0 := by rw [Nat.add_sub_cancel, EX.out, EY.out]; exact hxy
            have NC := Lib.hid (needC_run (.inr hne))
            have TK := Lib.hid (take_yes (first_of hg hlt (.inr hne)))
            rw [EX.out] at TK
            clear hxy hne
            have hsz := needTo_len xs (m + 1)
            by_cases hr : runP (rmAt xs (m + 1)) = runP xs
            · have dr : (runP (rmAt xs (m + 1)) == runP xs) = true := by simpa using hr
              have NT := Lib.hid (needTo_yes (NC.out.trans dr) EX.out)
              clear hr
              go_wp2_with fail
              refine (piTake_any _ _ _ _ hS hg).mono ?_
              rintro e w2 ⟨u2, rfl, o2, b2⟩
              rw [TK.out.2] at o2
              have o2s := o2.sv
              have ho2 := ho.below b2 (Nat.le_refl _)
              have hb2 := hb.trans (b2.mono hb.size)
              have hS2 := hS.below b2 (Nat.le_refl _)
              clear o2 b2 ho hb hS
              go_wp2_with fail
              refine (piRun_any _ _ _ o2s hrm).mono ?_
              rintro e w2' ⟨rfl, rfl⟩
              go_wp2_with fail
              refine (piRun_any _ _ _ hS2.sv hg).mono ?_
              rintro e w2' ⟨rfl, rfl⟩
              have z2 := hb2.size
              go_wp2_with (at_builtin; refine wpList_append_src rfl _ _ rfl w.heap.size _ (needTo xs (m + 1)) rfl (ho2.alloc _) _ [x] rfl (src_one _ _) (by simp only [List.length_cons, List.length_nil]; omega) (by simp; omega) ?_; intro v' w3 h3 g3)
              have b3 := (hb2.alloc z2 _).trans ((ho2.alloc _).grown (by simp; omega) g3)
              clear ho2 g3
              go_roundw
              case rel => exact ⟨m + 1 + 1, by omega, by go_num, by rw [NT.out]; exact h3, b3⟩
              case measure => simp only [intOf]; omega
            · have dr : (runP (rmAt xs (m + 1)) == runP xs) = false := by simpa using hr
              have NT := Lib.hid (needTo_no (NC.out.trans dr))
              clear hr
              go_wp2_with fail
              refine (piTake_any _ _ _ _ hS hg).mono ?_
              rintro e w2 ⟨u2, rfl, o2, b2⟩
              rw [TK.out.2] at o2
              have o2s := o2.sv
              have ho2 := ho.below b2 (Nat.le_refl _)
              have hb2 := hb.trans (b2.mono hb.size)
              have hS2 := hS.below b2 (Nat.le_refl _)
              clear o2 b2 ho hb hS
              go_wp2_with fail
              refine (piRun_any _ _ _ o2s hrm).mono ?_
              rintro e w2' ⟨rfl, rfl⟩
              go_wp2_with fail
              refine (piRun_any _ _ _ hS2.sv hg).mono ?_
              rintro e w2' ⟨rfl, rfl⟩
              go_wp2_with fail
              go_roundw
              case rel => exact ⟨m + 1 + 1, by omega, by go_num, by rw [NT.out]; exact ho2, hb2⟩
              case measure => simp only [intOf]; omega
      · have hkl : k = xs.length := by omega
        subst hkl
        go_wp2_with fail
        go_ret2
        exact ⟨_, ret_lb rfl hgb.symm, by rw [HR.out]; exact ho, hb⟩
  · have hgb := goodB_no hg
    have HR := Lib.hid (needR_no hgb)
    go_enter Try.func47, Try.ntmps47
    go_wp2_with fail
    refine (piGood_any _ _ _ hs hl).mono ?_
    rintro e w1 ⟨rfl, b1⟩
    go_wp2_with fail
    go_ret2
    exact ⟨_, ret_lb rfl hgb.symm, by rw [HR.out]; exact ow_nil _ _, b1⟩

set_option maxHeartbeats 8000000 in
set_option maxRecDepth 100000 in
theorem implNeedlessPieces_any (v : Value) (xs : List Int) (w : World) (h : Sp w v xs) (hl : xs.length ≤ 1099511627776) :
    Calls Try.prog 48 #[v] w fun e w' => ∃ u, e = .returned (.tuple #[u, .bool (goodB xs)]) ∧ Ow w' w.heap.size u (needR xs) ∧ Below w.heap.size w w' := by
  have hsp := h
  have hs := h.sv
  obtain ⟨b, off, cap, rfl, _, _, hbl, hc⟩ := h
  by_cases hg : Good xs
  · have hgb := goodB_yes hg
    have HR := Lib.hid (needR_yes hgb)
    have hl20 := hg.len
    have HC := Lib.hid hc
    clear hc
    go_enter Try.func48, Try.ntmps48
    go_wp2_with fail
    refine (arePieces_any _ _ _ hs hl).mono ?_
    rintro e w1 ⟨rfl, b1⟩
    have h1 := hsp.below b1 (Nat.le_refl _)
    go_wp2_with fail
    refine (runOf_any _ _ _ h1.sv hg).mono ?_
    rintro e w1' ⟨rfl, rfl⟩
    go_wp2_with fail
    go_loopw [5, 16] (fun a i wr => ∃ k : Nat, k ≤ xs.length ∧ i = .int .i64 k ∧ Ow wr w.heap.size a (needTo xs k) ∧ Below w.heap.size w wr) (fun _ i _ => xs.length - (intOf i).toNat)
    case atStart => exact ⟨0, by omega, rfl, (ow_empty w1).mono b1.size, b1.alloc b1.size _⟩
    case round =>
      clear h1 b1
      obtain ⟨k, hk, rfl, ho, hb⟩ := hrel
      by_cases hlt : k < xs.length
      · have hS := hsp.below hb (Nat.le_refl _)
        have hcell := (hb.cell (p := ⟨b, off + k, none⟩) hbl).trans (HC.out k hlt)
        obtain ⟨x, ex⟩ : ∃ x, xs.getD k 0 = x := ⟨_, rfl⟩
        rw [ex] at hcell
        have EX := Lib.hid ex
        clear ex
        have hrm := hg.rm hlt
        by_cases hk0 : k = 0
        · subst hk0
          rw [Nat.add_zero] at hcell
          have NC := Lib.hid (needC_run (xs := xs) (i := 0) (.inl rfl))
          have TK := Lib.hid (take_yes (first_of hg hlt (.inl rfl)))
          rw [EX.out] at TK
          have hsz := needTo_len xs (0)
          by_cases hr : runP (rmAt xs (0)) = runP xs
          · have dr : (runP (rmAt xs (0)) == runP xs) = true := by simpa using hr
            have NT := Lib.hid (needTo_yes (NC.out.trans dr) EX.out)
            clear hr
            go_wp2_with fail
            refine (without_int _ xs (0) _ _ (by omega) hS hg.len hlt).mono ?_
            rintro e w2 ⟨u2, rfl, o2, b2⟩
            have o2s := o2.sv
            have ho2 := ho.below b2 (Nat.le_refl _)
            have hb2 := hb.trans (b2.mono hb.size)
            have hS2 := hS.below b2 (Nat.le_refl _)
            clear o2 b2 ho hb hS
            go_wp2_with fail
            refine (runOf_any _ _ _ o2s hrm).mono ?_
            rintro e w2' ⟨rfl, rfl⟩
            have z2 := hb2.size
            go_wp2_with (at_builtin; refine wpList_append_src rfl _ _ rfl w.heap.size _ (needTo xs (0)) rfl (ho2.alloc _) _ [x] rfl (src_one _ _) (by simp only [List.length_cons, List.length_nil]; omega) (by simp; omega) ?_; intro v' w3 h3 g3)
            have b3 := (hb2.alloc z2 _).trans ((ho2.alloc _).grown (by simp; omega) g3)
            clear ho2 g3
            go_roundw
            case rel => exact ⟨0 + 1, by omega, by go_num, by rw [NT.out]; exact h3, b3⟩
            case measure => simp only [intOf]; omega
          · have dr : (runP (rmAt xs (0)) == runP xs) = false := by simpa using hr
            have NT := Lib.hid (needTo_no (NC.out.trans dr))
            clear hr
            go_wp2_with fail
            refine (without_int _ xs (0) _ _ (by omega) hS hg.len hlt).mono ?_
            rintro e w2 ⟨u2, rfl, o2, b2⟩
            have o2s := o2.sv
            have ho2 := ho.below b2 (Nat.le_refl _)
            have hb2 := hb.trans (b2.mono hb.size)
            have hS2 := hS.below b2 (Nat.le_refl _)
            clear o2 b2 ho hb hS
            go_wp2_with fail
            refine (runOf_any _ _ _ o2s hrm).mono ?_
            rintro e w2' ⟨rfl, rfl⟩
            go_wp2_with fail
            go_roundw
            case rel => exact ⟨0 + 1, by omega, by go_num, by rw [NT.out]; exact ho2, hb2⟩
            case measure => simp only [intOf]; omega
        · obtain ⟨m, rfl⟩ : ∃ m, k = m + 1 := ⟨k - 1, by omega⟩
          have hcell2 := (hb.cell (p := ⟨b, off + m, none⟩) hbl).trans (HC.out m (by omega))
          obtain ⟨y, ey⟩ : ∃ y, xs.getD m 0 = y := ⟨_, rfl⟩
          rw [ey] at hcell2
          have EY := Lib.hid ey
          have d1 : decide ((0 : Int) < (m : Int) + 1) = true := by simp only [decide_eq_true_eq]; omega
          clear ey hk0
          by_cases hxy : y = x
          · have d2 : (y == x) = true := by simpa using hxy
            have NT := Lib.hid (needTo_no (needC_same (xs := xs) (m := m) (by rw [EX.out, EY.out]; exact hxy)))
            clear hxy
            go_wp2_with fail
            go_roundw
            case rel => exact ⟨m + 2, by omega, by go_num, by rw [show m + 2 = m + 1 + 1 from rfl, NT.out]; exact ho, hb⟩
            case measure => simp only [intOf]; omega
          · have d2 : (y == x) = false := by simpa using hxy
            have hne : xs.getD (m + 1 - 1) 0 ≠ xs.getD (m + 1) 0 := by rw [Nat.add_sub_cancel, EX.out, EY.out]; exact hxy
            have NC := Lib.hid (needC_run (.inr hne))
            have TK := Lib.hid (take_yes (first_of hg hlt (.inr hne)))
            rw [EX.out] at TK
            clear hxy hne
            have hsz := needTo_len xs (m + 1)
            by_cases hr : runP (rmAt xs (m + 1)) = runP xs
            · have dr : (runP (rmAt xs (m + 1)) == runP xs) = true := by simpa using hr
              have NT := Lib.hid (needTo_yes (NC.out.trans dr) EX.out)
              clear hr
              go_wp2_with fail
              refine (without_int _ xs (m + 1) _ _ (by omega) hS hg.len hlt).mono ?_
              rintro e w2 ⟨u2, rfl, o2, b2⟩
              have o2s := o2.sv
              have ho2 := ho.below b2 (Nat.le_refl _)
              have hb2 := hb.trans (b2.mono hb.size)
              have hS2 := hS.below b2 (Nat.le_refl _)
              clear o2 b2 ho hb hS
              go_wp2_with fail
              refine (runOf_any _ _ _ o2s hrm).mono ?_
              rintro e w2' ⟨rfl, rfl⟩
              have z2 := hb2.size
              go_wp2_with (at_builtin; refine wpList_append_src rfl _ _ rfl w.heap.size _ (needTo xs (m + 1)) rfl (ho2.alloc _) _ [x] rfl (src_one _ _) (by simp only [List.length_cons, List.length_nil]; omega) (by simp; omega) ?_; intro v' w3 h3 g3)
              have b3 := (hb2.alloc z2 _).trans ((ho2.alloc _).grown (by simp; omega) g3)
              clear ho2 g3
              go_roundw
              case rel => exact ⟨m + 1 + 1, by omega, by go_num, by rw [NT.out]; exact h3, b3⟩
              case measure => simp only [intOf]; omega
            · have dr : (runP (rmAt xs (m + 1)) == runP xs) = false := by simpa using hr
              have NT := Lib.hid (needTo_no (NC.out.trans dr))
              clear hr
              go_wp2_with fail
              refine (without_int _ xs (m + 1) _ _ (by omega) hS hg.len hlt).mono ?_
              rintro e w2 ⟨u2, rfl, o2, b2⟩
              have o2s := o2.sv
              have ho2 := ho.below b2 (Nat.le_refl _)
              have hb2 := hb.trans (b2.mono hb.size)
              have hS2 := hS.below b2 (Nat.le_refl _)
              clear o2 b2 ho hb hS
              go_wp2_with fail
              refine (runOf_any _ _ _ o2s hrm).mono ?_
              rintro e w2' ⟨rfl, rfl⟩
              go_wp2_with fail
              go_roundw
              case rel => exact ⟨m + 1 + 1, by omega, by go_num, by rw [NT.out]; exact ho2, hb2⟩
              case measure => simp only [intOf]; omega
      · have hkl : k = xs.length := by omega
        subst hkl
        go_wp2_with fail
        go_ret2
        exact ⟨_, ret_lb rfl hgb.symm, by rw [HR.out]; exact ho, hb⟩
  · have hgb := goodB_no hg
    have HR := Lib.hid (needR_no hgb)
    go_enter Try.func48, Try.ntmps48
    go_wp2_with fail
    refine (arePieces_any _ _ _ hs hl).mono ?_
    rintro e w1 ⟨rfl, b1⟩
    go_wp2_with fail
    go_ret2
    exact ⟨_, ret_lb rfl hgb.symm, by rw [HR.out]; exact ow_nil _ _, b1⟩

set_option maxHeartbeats 4000000 in
theorem lawNeedlessPieces (v : Value) (xs : List Int) (w : World) (h : Sv w v xs) (hm : xs.length ≤ 9223372036854775807) :
    Calls Try.prog 15 #[v] w fun e w' => e = .returned (.bool true) ∧ Below w.heap.size w w' := by
  have hs := h
  obtain ⟨p, cap, rfl, hx⟩ := h
  clear hx
  by_cases hbig : 1048576 < xs.length
  · go_enter Try.func15, Try.ntmps15
    go_wp2
    go_ret
    exact ⟨rfl, Below.refl _ _⟩
  · have hl : xs.length ≤ 1099511627776 := by omega
    have hyl : (needR xs).length ≤ 1099511627776 := needR_len _
    go_enter Try.func15, Try.ntmps15
    go_wp2_with fail
    refine (toIntS_any _ _ _ hs hl).mono ?_
    rintro e w1 ⟨u1, rfl, o1, a1', b1⟩
    go_wp2_with fail
    refine (specNeedlessPieces_any _ _ _ (o1.sp a1') hl).mono ?_
    rintro e w2 ⟨v2, rfl, o2, b2⟩
    have z1 := b1.size
    have o2 := o2.mono z1
    have t2 := nxt b1 b2
    clear o1 b1 b2 a1'
    go_wp2_with fail
    refine (toIntS_any _ _ _ (hs.below t2 (Nat.le_refl _)) hl).mono ?_
    rintro e w3 ⟨u3, rfl, o3, a3, b3⟩
    have z2 := t2.size
    have p2 := ap_below o2 a3 (Nat.le_refl _)
    have lt3 := own_lt o3 a3
    have q2 := o2.below b3 (Nat.le_refl _)
    have t3 := nxt t2 b3
    clear b3 t2
    go_wp2_with fail
    refine (implNeedlessPieces_any _ _ _ (o3.sp a3) hl).mono ?_
    rintro e w4 ⟨g4, rfl, o4, b4⟩
    have z3 := t3.size
    have p4 := ap_above o4 a3 lt3
    have p24 := ap_two o2 o4 (by omega)
    have o4 := o4.mono z3
    have q2 := q2.below b4 (Nat.le_refl _)
    have q3 := o3.below b4 (Nat.le_refl _)
    have t4 := nxt t3 b4
    clear o3 b4 t3 o2
    go_wp2_with fail
    refine (eqIntS_yes _ _ _ _ _ o4.sv q2.sv rfl hyl).mono ?_
    rintro e w5 ⟨rfl, b5⟩
    have o4 := o4.below b5 (Nat.le_refl _)
    have q2 := q2.below b5 (Nat.le_refl _)
    have q3 := q3.below b5 (Nat.le_refl _)
    have t5 := nxt t4 b5
    clear b5 t4
    go_wp2_with fail
    refine (toIntS_any _ _ _ (hs.below t5 (Nat.le_refl _)) hl).mono ?_
    rintro e w6 ⟨u6, rfl, o6, -, b6⟩
    have o4 := o4.below b6 (Nat.le_refl _)
    have q2 := q2.below b6 (Nat.le_refl _)
    have q3 := q3.below b6 (Nat.le_refl _)
    have t6 := nxt t5 b6
    clear b6 t5
    go_wp2_with fail
    refine (eqIntS_yes _ _ _ _ _ q3.sv o6.sv rfl hl).mono ?_
    rintro e w7 ⟨rfl, b7⟩
    have o4 := o4.below b7 (Nat.le_refl _)
    have q2 := q2.below b7 (Nat.le_refl _)
    have q3 := q3.below b7 (Nat.le_refl _)
    have t7 := nxt t6 b7
    have z7 := t7.size
    clear b7 t6 o6
    go_wp2_with fail
    refine (markIntS_any _ xs _ 1 _ q3 hl (by omega) (by omega)).mono ?_
    rintro e w8 ⟨rfl, -, g8⟩
    have o4 := o4.kept g8 p4
    have q2 := q2.kept g8 p2
    have t8 := t7.trans (q3.marked z2 (Nat.le_of_lt (own_lt q3 a3)) g8)
    have z8 := t8.size
    clear q3 g8 t7 a3
    go_wp2_with fail
    refine (eqIntS_yes _ _ _ _ _ o4.sv q2.sv rfl hyl).mono ?_
    rintro e w9 ⟨rfl, b9⟩
    have o4 := o4.below b9 (Nat.le_refl _)
    have q2 := q2.below b9 (Nat.le_refl _)
    have t9 := nxt t8 b9
    have z9 := t9.size
    clear b9 t8
    go_wp2_with fail
    refine (markIntS_any _ (needR xs) _ 1 _ o4 hyl (by omega) (by omega)).mono ?_
    rintro e w10 ⟨rfl, o10, g10⟩
    have q2 := q2.kept g10 p24
    have t10 := t9.trans (o4.marked (Nat.le_refl _) z9 g10)
    clear o4 g10 t9
    go_wp2_with fail
    refine (heldIntS_any _ (needR xs).length 1 _ o10.sv hyl (by omega) (by omega)).mono ?_
    rintro e w10' ⟨rfl, rfl⟩
    go_wp2_with fail
    refine (toIntS_any _ _ _ (hs.below t10 (Nat.le_refl _)) hl).mono ?_
    rintro e w11 ⟨u11, rfl, o11, a11, b11⟩
    have o10 := o10.below b11 (Nat.le_refl _)
    have q2 := q2.below b11 (Nat.le_refl _)
    have t11 := nxt t10 b11
    clear b11 t10
    go_wp2_with fail
    refine (implNeedlessPieces_any _ _ _ (o11.sp a11) hl).mono ?_
    rintro e w12 ⟨h12, rfl, o12, b12⟩
    have o10 := o10.below b12 (Nat.le_refl _)
    have q2 := q2.below b12 (Nat.le_refl _)
    have t12 := nxt t11 b12
    clear b12 t11 o11 a11
    go_wp2_with fail
    refine (eqIntS_yes _ _ _ _ _ o12.sv q2.sv rfl hyl).mono ?_
    rintro e w13 ⟨rfl, b13⟩
    have o10 := o10.below b13 (Nat.le_refl _)
    have t13 := nxt t12 b13
    clear b13 t12 o12 q2
    go_wp2_with fail
    refine (heldIntS_any _ (needR xs).length 1 _ o10.sv hyl (by omega) (by omega)).mono ?_
    rintro e w13' ⟨rfl, rfl⟩
    go_wp2_with fail
    go_ret
    exact ⟨rfl, t13⟩

end Go.Proofs.Ytpijogajjinedaa
