/-
  NeedlessStamps in the model, by its contract. Condition: slices of at most 2^40 numbers.
-/
import Derived.Test.YtmllokooceghiaaStn
import Derived.Deep.RegionLaw
import Derived.BigRegion
namespace Go.Proofs.Ytmllokooceghiaa
open Go.RowKit

theorem src_take {w : World} {b off c k : Nat} {xs : List Int} (hb : b < w.heap.size) (hc : ∀ j, j < xs.length → w.cell? ⟨b, off + j, none⟩ = some (.int .i64 (xs.getD j 0))) (hk : k ≤ xs.length) : Src w (.slice (some ⟨b, off, none⟩) k c) (xs.take k) := by
  have e : (xs.take k).length = k := by simp; omega
  refine .inr ⟨b, off, c, by rw [e], hb, fun j hj => ?_⟩
  rw [hc j (by omega), List.getD_eq_getElem?_getD, List.getD_eq_getElem?_getD, List.getElem?_take, if_pos (by omega)]
theorem src_drop {w : World} {b off c k : Nat} {xs : List Int} (hb : b < w.heap.size) (hc : ∀ j, j < xs.length → w.cell? ⟨b, off + j, none⟩ = some (.int .i64 (xs.getD j 0))) : Src w (.slice (some ⟨b, off + k, none⟩) (xs.length - k) c) (xs.drop k) := by
  have e : (xs.drop k).length = xs.length - k := by simp
  refine .inr ⟨b, off + k, c, by rw [e], hb, fun j hj => ?_⟩
  rw [Nat.add_assoc, hc (k + j) (by omega), List.getD_eq_getElem?_getD, List.getD_eq_getElem?_getD, List.getElem?_drop]
theorem src_end {w : World} {b off c k : Nat} {xs : List Int} (hb : b < w.heap.size) (hk : xs.length ≤ k) : Src w (.slice (some ⟨b, off, none⟩) (xs.length - k) c) (xs.drop k) := by
  have e : (xs.drop k).length = xs.length - k := by simp
  exact .inr ⟨b, off, c, by rw [e], hb, fun j hj => by omega⟩

/-- All stamps but the one at i. -/
def rmS (st : List Int) (i : Nat) : List Int := st.take i ++ st.drop (i + 1)
theorem rmS_erase (st : List Int) (i : Nat) : rmS st i = st.eraseIdx i := (List.eraseIdx_eq_take_drop_succ st i).symm
theorem Stm.rm {st : List Int} (h : Stm st) (h2 : 2 ≤ st.length) {i : Nat} (hi : i < st.length) : Stm (rmS st i) := by
  have hsub : (rmS st i).Sublist st := by rw [rmS_erase]; exact List.eraseIdx_sublist _ _
  have hl : (rmS st i).length + 1 = st.length := by unfold rmS; simp only [List.length_append, List.length_take, List.length_drop]; omega
  have h6 := h.six
  exact ⟨by omega, by omega, pw_ris (h.pw.sublist hsub) fun x hx => h.mem x (hsub.subset hx)⟩
def neL (st : List Int) (r : Nat) (k : Nat) : List Int := ((List.range k).filter fun i => decide (rch (rmS st i) r = rch st r)).map fun i => st.getD i 0
theorem neL_yes {st : List Int} {r k : Nat} (h : rch (rmS st k) r = rch st r) : neL st r (k + 1) = neL st r k ++ [st.getD k 0] := by
  unfold neL; rw [List.range_succ, List.filter_append]; simp [h]
theorem neL_no {st : List Int} {r k : Nat} (h : ¬ rch (rmS st k) r = rch st r) : neL st r (k + 1) = neL st r k := by
  unfold neL; rw [List.range_succ, List.filter_append]; simp [h]
theorem neL_len (st : List Int) (r k : Nat) : (neL st r k).length ≤ k := by
  unfold neL; rw [List.length_map]; exact Nat.le_trans (List.length_filter_le _ _) (by simp)
noncomputable def neB (st : List Int) (r : Int) : Bool := rmB st r && !(decide (st.length = 1))
noncomputable def neR (st : List Int) (r : Int) : List Int := if neB st r = true then neL st r.toNat st.length else []
theorem neR_len (st : List Int) (r : Int) (hl : st.length ≤ 1099511627776) : (neR st r).length ≤ 1099511627776 := by
  unfold neR
  split
  · have := neL_len st r.toNat st.length; omega
  · simp

set_option maxHeartbeats 8000000 in
set_option maxRecDepth 20000 in
theorem specNeedlessStamps_any (v : Value) (st : List Int) (a1 : Int) (w : World) (h : Sp w v st) (hl : st.length ≤ 1099511627776) :
    Calls Try.prog 45 #[v, .int .i64 a1] w fun e w' => ∃ u, e = .returned (.tuple #[u, .bool (neB st a1)]) ∧ Ow w' w.heap.size u (neR st a1) ∧ Below w.heap.size w w' := by
  have HS := Lib.hid h.sv
  by_cases hr : rmB st a1 = true
  · obtain ⟨S, r, rfl, r1, r8⟩ := rmB_yes hr
    have HT := Lib.hid S
    have h6 := S.six
    have h1 := S.one
    have RM := Lib.hid (stRoom_any v st r w HS.out hl)
    rw [hr] at RM
    by_cases h11 : st.length = 1
    · have R := Lib.hid (show neB st r = false by simp [neB, h11])
      have Q := Lib.hid (show neR st r = [] by simp [neR, R.out])
      obtain ⟨b, off, cap, rfl, hcap, hcm, hbl, hc⟩ := h
      rw [h11] at RM HS ⊢
      clear hc S hcm HS hcap
      go_enter Try.func45, Try.ntmps45
      go_wp2_with fail
      refine RM.out.mono ?_
      rintro e w1 ⟨rfl, b1⟩
      go_wp2_with fail
      go_ret2
      exact ⟨_, ret_lb rfl R.out.symm, by rw [Q.out]; exact World.ownsRow_nil _ _ _ _, b1⟩
    · have R := Lib.hid (show neB st r = true by simp [neB, hr, h11])
      have Q : Hid (neR st r = neL st r st.length) := Lib.hid (by simp [neR, R.out])
      have RE := fun W hB => Lib.hid (stReach_any v st r W (HS.out.below (w' := W) hB (Nat.le_refl _)) HT.out r1 r8)
      obtain ⟨X, eX⟩ : ∃ X, rch st r = X := ⟨_, rfl⟩
      rw [eX] at RE
      have EX := Lib.hid eX
      obtain ⟨b, off, cap, rfl, hcap, hcm, hbl, hc⟩ := h
      have hcm : cap ≤ 9223372036854775807 := by unfold maxLen at hcm; exact hcm
      have d1 : ((st.length : Int) == 1) = false := by rw [beq_eq_false_iff_ne]; omega
      have HC := Lib.hid hc
      clear eX S hc
      go_enter Try.func45, Try.ntmps45
      go_wp2_with fail
      refine RM.out.mono ?_
      rintro e w1 ⟨rfl, b1⟩
      clear RM
      go_wp2
      go_loopw [6, 21] (fun t x wr => ∃ i : Nat, i ≤ st.length ∧ x = .int .i64 i ∧ Ow wr w.heap.size t (neL st r i) ∧ Below w.heap.size w wr) (fun _ x _ => st.length - (intOf x).toNat)
      case atStart => exact ⟨0, Nat.zero_le _, rfl, World.ownsRow_nil _ _ _ _, b1⟩
      case round =>
        obtain ⟨i, hi, rfl, ho, hb⟩ := hrel
        have hz := hb.size
        have hnl := neL_len st r i
        by_cases hlt : i < st.length
        · have hcw : ∀ j, j < st.length → wr.cell? ⟨b, off + j, none⟩ = some (.int .i64 (st.getD j 0)) := fun j hj => (hb.cell (p := ⟨b, off + j, none⟩) hbl).trans (HC.out j hj)
          have hblw : b < wr.heap.size := by omega
          have hcell := hcw i hlt
          have sT := src_take (w := wr) (b := b) (off := off) (c := cap) hblw hcw (Nat.le_of_lt hlt)
          have RR := fun W v hv => Lib.hid (stReach_any v (rmS st i) r W hv (HT.out.rm (by omega) hlt) r1 r8)
          obtain ⟨y, ey⟩ : ∃ y, rch (rmS st i) r = y := ⟨_, rfl⟩
          rw [ey] at RR
          have EY := Lib.hid ey
          obtain ⟨n, en⟩ : ∃ n, st.getD i 0 = n := ⟨_, rfl⟩
          rw [en] at hcell
          have EN := Lib.hid en
          have i0 : (0 : Int) ≤ i := by omega
          have i1 : (i : Int) ≤ (cap : Int) := by omega
          have i2 : (0 : Int) ≤ (i : Int) + 1 := by omega
          have i3 : (i : Int) + 1 ≤ (cap : Int) := by omega
          have i4 : (i : Int) + 1 ≤ (st.length : Int) := by omega
          have hw1 : IntKind.i64.wrap ((i : Int) + 1) = (i : Int) + 1 := IntWalk.i64_in _ (by omega)
          clear ey en
          by_cases hcc : cap = i + 1
          · subst hcc
            have sD := src_end (w := wr) (b := b) (off := off) (c := 0) (k := i + 1) hblw hcap
            rw [show st.length - (i + 1) = 0 by omega] at sD
            have i5 : (i : Int) ≤ (i : Int) + 1 := by omega
            clear hcw
            go_wp2
            go_region_law (first
              | (go_simp; go_at_call 64; refine (l1Own_any _ (st.take i) _ (by first | exact sT.below ((Below.refl _ wr).drew) (Nat.le_refl _) | exact sT) (by simp only [List.length_take]; omega)).mono ?_; rintro e w1 ⟨v1, rfl, o1, b1⟩; have O1 : Ow w1 wr.heap.size v1 (st.take i) := o1.mono (by simp); have B1 : Below wr.heap.size wr w1 := (by first | exact (Below.refl _ wr).drew.trans b1 | exact b1); have Z1 := B1.size; have SD2 := sD.below B1 (Nat.le_refl _); clear o1 b1)
              | (refine step_append_src rfl (.tmp 29) (.tmp 33) rfl wr.heap.size _ (st.take i) rfl O1 _ (st.drop (i + 1)) rfl SD2 (by simp only [List.length_take, List.length_drop]; omega) Z1 ?_; intro v3 w3 o3 g3; have B3 : Below wr.heap.size wr w3 := B1.trans (O1.grown Z1 g3); clear O1 g3 B1 SD2))
            all_goals
              have hb3 := nxt hb B3
              have ho3 := ho.below B3 (Nat.le_refl _)
              have sv3 : Sv w3 v3 (rmS st i) := o3.sv
              clear B3 o3 hb ho
              go_wp2_with fail
              refine (RR _ _ sv3).out.mono ?_
              rintro e w5 ⟨rfl, b5⟩
              have hb5 := nxt hb3 b5
              have ho5 := ho3.below b5 (Nat.le_refl _)
              clear b5 hb3 ho3 RR
              go_wp2_with fail
              refine (RE _ hb5).out.mono ?_
              rintro e w6 ⟨rfl, b6⟩
              have hb6 := nxt hb5 b6
              have ho6 := ho5.below b6 (Nat.le_refl _)
              have hz6 := hb6.size
              clear b6 hb5 ho5
              by_cases hxy : y = X
              · have S2 := Lib.hid (neL_yes (st := st) (r := r) (k := i) (by rw [EY.out, EX.out]; exact hxy))
                rw [EN.out] at S2
                subst hxy
                go_wp2_with (at_builtin; refine wpList_append_src rfl _ _ rfl w.heap.size _ (neL st r i) rfl (ho6.alloc _) _ [n] rfl (src_one _ _) (by simp only [List.length_cons, List.length_nil]; omega) (by simp; omega) ?_; intro v' w7 h7 g7)
                have b7 := (hb6.alloc hz6 _).trans ((ho6.alloc _).grown (by simp; omega) g7)
                clear ho6 g7 hb6
                go_roundw
                case rel => exact ⟨i + 1, by omega, by go_num, by rw [S2.out]; exact h7, b7⟩
                case measure => simp only [intOf]; omega
              · have S2 := Lib.hid (neL_no (st := st) (r := r) (k := i) (by rw [EY.out, EX.out]; exact hxy))
                have dxy : ((y : Int) == (X : Int)) = false := by rw [beq_eq_false_iff_ne]; omega
                go_wp2_with fail
                go_roundw
                case rel => exact ⟨i + 1, by omega, by go_num, by rw [S2.out]; exact ho6, hb6⟩
                case measure => simp only [intOf]; omega
          · have sD := src_drop (w := wr) (b := b) (off := off) (c := cap - (i + 1)) (k := i + 1) hblw hcw
            clear hcw
            go_wp2
            go_region_law (first
              | (go_simp; go_at_call 64; refine (l1Own_any _ (st.take i) _ (by first | exact sT.below ((Below.refl _ wr).drew) (Nat.le_refl _) | exact sT) (by simp only [List.length_take]; omega)).mono ?_; rintro e w1 ⟨v1, rfl, o1, b1⟩; have O1 : Ow w1 wr.heap.size v1 (st.take i) := o1.mono (by simp); have B1 : Below wr.heap.size wr w1 := (by first | exact (Below.refl _ wr).drew.trans b1 | exact b1); have Z1 := B1.size; have SD2 := sD.below B1 (Nat.le_refl _); clear o1 b1)
              | (refine step_append_src rfl (.tmp 29) (.tmp 33) rfl wr.heap.size _ (st.take i) rfl O1 _ (st.drop (i + 1)) rfl SD2 (by simp only [List.length_take, List.length_drop]; omega) Z1 ?_; intro v3 w3 o3 g3; have B3 : Below wr.heap.size wr w3 := B1.trans (O1.grown Z1 g3); clear O1 g3 B1 SD2))
            all_goals
              have hb3 := nxt hb B3
              have ho3 := ho.below B3 (Nat.le_refl _)
              have sv3 : Sv w3 v3 (rmS st i) := o3.sv
              clear B3 o3 hb ho
              go_wp2_with fail
              refine (RR _ _ sv3).out.mono ?_
              rintro e w5 ⟨rfl, b5⟩
              have hb5 := nxt hb3 b5
              have ho5 := ho3.below b5 (Nat.le_refl _)
              clear b5 hb3 ho3 RR
              go_wp2_with fail
              refine (RE _ hb5).out.mono ?_
              rintro e w6 ⟨rfl, b6⟩
              have hb6 := nxt hb5 b6
              have ho6 := ho5.below b6 (Nat.le_refl _)
              have hz6 := hb6.size
              clear b6 hb5 ho5
              by_cases hxy : y = X
              · have S2 := Lib.hid (neL_yes (st := st) (r := r) (k := i) (by rw [EY.out, EX.out]; exact hxy))
                rw [EN.out] at S2
                subst hxy
                go_wp2_with (at_builtin; refine wpList_append_src rfl _ _ rfl w.heap.size _ (neL st r i) rfl (ho6.alloc _) _ [n] rfl (src_one _ _) (by simp only [List.length_cons, List.length_nil]; omega) (by simp; omega) ?_; intro v' w7 h7 g7)
                have b7 := (hb6.alloc hz6 _).trans ((ho6.alloc _).grown (by simp; omega) g7)
                clear ho6 g7 hb6
                go_roundw
                case rel => exact ⟨i + 1, by omega, by go_num, by rw [S2.out]; exact h7, b7⟩
                case measure => simp only [intOf]; omega
              · have S2 := Lib.hid (neL_no (st := st) (r := r) (k := i) (by rw [EY.out, EX.out]; exact hxy))
                have dxy : ((y : Int) == (X : Int)) = false := by rw [beq_eq_false_iff_ne]; omega
                go_wp2_with fail
                go_roundw
                case rel => exact ⟨i + 1, by omega, by go_num, by rw [S2.out]; exact ho6, hb6⟩
                case measure => simp only [intOf]; omega
        · have hie : i = st.length := by omega
          subst hie
          go_wp2
          go_ret2
          exact ⟨_, ret_lb rfl R.out.symm, by rw [Q.out]; exact ho, hb⟩
  · have hr : rmB st a1 = false := by simpa using hr
    have R := Lib.hid (show neB st a1 = false by simp [neB, hr])
    have Q := Lib.hid (show neR st a1 = [] by simp [neR, R.out])
    clear h
    go_enter Try.func45, Try.ntmps45
    go_wp2_with fail
    refine (stRoom_any _ _ _ _ HS.out hl).mono ?_
    rw [hr]
    rintro e w1 ⟨rfl, b1⟩
    go_wp2_with fail
    go_ret2
    exact ⟨_, ret_lb rfl R.out.symm, by rw [Q.out]; exact World.ownsRow_nil _ _ _ _, b1⟩
end Go.Proofs.Ytmllokooceghiaa
