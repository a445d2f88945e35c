/-
  NeedlessCoins in the program, by its contracts. Condition: slices of at most 2^40 numbers.
-/
import Derived.Test.YtdgadabfahmdmaaVnp
import Derived.Test.YtdgadabfahmdmaaVbs
import Derived.Test.YtdgadabfahmdmaaVcx
import Derived.Deep.RegionWith
import Derived.Deep.DeepMust
namespace Go.Proofs.Ytdgadabfahmdmaa
open Go.RowKit


set_option maxHeartbeats 8000000 in
set_option maxRecDepth 100000 in
theorem implNeedlessCoins_any (v : Value) (xs : List Int) (w : World) (h : Sp w v xs) (hl : xs.length ≤ 1099511627776) :
    Calls Try.prog 49 #[v] w fun e w' => ∃ u, e = .returned (.tuple #[u, .bool (cnsB xs)]) ∧ Ow w' w.heap.size u (neR xs) ∧ Below w.heap.size w w' := by
  have CA := Lib.hid (areCoins_any v xs w h.sv hl)
  by_cases hc : cnsB xs = true
  · skip
    obtain ⟨cs, rfl, hc'⟩ := cn_of hc
    have hsp := h
    obtain ⟨b, off, cap, rfl, hcap, hcm, hbl, hcl⟩ := h
    have hcm : cap ≤ 9223372036854775807 := by unfold maxLen at hcm; exact hcm
    have h8 := hc'.eight
    have hln := iL_len cs
    have HR := Lib.hid (neR_yes hc)
    have HB := Lib.hid hc
    rw [hc] at CA
    have HCL := Lib.hid hcl
    have HN := Lib.hid hc'
    have hl9 : (iL cs).length ≤ 8 := by omega
    clear hcl hc hc' hsp hln h8
    go_enter Try.func49, Try.ntmps49
    go_wp2_with fail
    refine CA.out.mono ?_
    rintro e w' ⟨rfl, rfl⟩
    go_wp2_with fail
    have ho0 := ow_empty w
    have hb0 := (Below.refl w.heap.size w).alloc (Nat.le_refl _) (.cells #[] 3)
    go_loopw [4, 14] (fun a i wr => ∃ k : Nat, k ≤ (iL cs).length ∧ i = .int .i64 k ∧ Ow wr w.heap.size a (iL (ndT cs k)) ∧ Below w.heap.size w wr) (fun _ i _ => (iL cs).length - (intOf i).toNat)
    case atStart => exact ⟨0, Nat.zero_le _, rfl, ho0, hb0⟩
    case round =>
      clear ho0 hb0
      obtain ⟨k, hk, rfl, ho, hb⟩ := hrel
      have hsz := hb.size
      have hsl := ndT_len cs k
      have hsl2 := iL_len (ndT cs k)
      by_cases hlt : k < (iL cs).length
      · have hbw : b < wr.heap.size := Nat.lt_of_lt_of_le hbl hsz
        have hcw : ∀ j, j < (iL cs).length → wr.cell? ⟨b, off + j, none⟩ = some (.int .i64 ((iL cs).getD j 0)) := fun j hj => (hb.cell (p := ⟨b, off + j, none⟩) hbl).trans (HCL.out j hj)
        have st := src_take (w := wr) (b := b) (off := off) (c := cap) hbw hcw hk
        have sd := src_drop (w := wr) (b := b) (off := off) (c := cap - (k + 1)) (k := k + 1) hbw hcw
        have hkc : k < cs.length := by have := iL_len cs; omega
        obtain ⟨c, ec⟩ : ∃ c, cs.getD k 0 = c := ⟨_, rfl⟩
        have hcell := hcw k hlt
        rw [iL_at, ec] at hcell
        have hcb : 1 ≤ c ∧ c ≤ 1000 := by rw [← ec]; exact HN.out.mem _ (at_mem hkc)
        have hcb1 := hcb.1
        have hcb2 := hcb.2
        have NY := Lib.hid (fun h => ndT_yes (cs := cs) (k := k) ec h)
        have NN := Lib.hid (fun h => ndT_no (cs := cs) (k := k) ec h)
        have HM := Lib.hid (rm_iL cs k)
        obtain ⟨L, eL⟩ : ∃ L, rmN cs k = L := ⟨_, rfl⟩
        have hLp : Pos L := by rw [← eL]; exact rm_pos HN.out.pos k
        have hLl : L.length ≤ 8 := by rw [← eL]; have := rm_len cs k; have := HN.out.eight; omega
        have hLm : ∀ x ∈ L, x ≤ 1048576 := by intro x hx; rw [← eL] at hx; have := HN.out.mem x (rm_mem hx); omega
        rw [eL] at NY NN HM
        have HLP := Lib.hid hLp
        have HLM := Lib.hid hLm
        have hi0 : (0 : Int) ≤ (k : Int) := by omega
        have hi1 : (k : Int) ≤ (cap : Int) := by omega
        have hi2 : (k : Int) + 1 ≤ ((iL cs).length : Int) := by omega
        have hi3 : (0 : Int) ≤ (k : Int) + 1 := by omega
        have hw : IntKind.i64.wrap ((k : Int) + 1) = (k : Int) + 1 := IntWalk.i64_in _ (by omega)
        have ht : ((k : Int) + 1).toNat = k + 1 := by omega
        have hi4 : (k : Int) ≤ (k : Int) + 1 := by omega
        have hlist : ((iL cs).take k).length + ((iL cs).drop (k + 1)).length ≤ 1000 := by simp only [List.length_take, List.length_drop]; omega
        have hli2 : ((iL cs).take k).length ≤ 1000 := by simp only [List.length_take]; omega
        have hl1 : ((iL cs).take k).length ≤ 1048576 := by omega
        have hl2 : ((iL cs).drop (k + 1)).length ≤ 1048576 := by omega
        have hci : (c : Int) < ((c + 1 : Nat) : Int) := by omega
        have hc0 : (0 : Int) ≤ (c : Int) := by omega
        clear hcw hcb ec eL hLp hLm hkc
        by_cases hcc : cap = k + 1
        · have sE := src_end (w := wr) (b := b) (off := off) (c := 0) (k := k + 1) (xs := iL cs) hbw (by omega)
          rw [show (iL cs).length - (k + 1) = 0 by omega] at sE
          clear sd
          subst hcc
          have sd := sE
          clear sE
          go_wp2
          go_region_with (go_at_call 81; go_must (refine (concat2_any _ _ _ _ _ _ (by exact heap_alloc_new wr _) (by exact st.below ((Below.refl _ wr).alloc (Nat.le_refl _) _).drew (Nat.le_refl _)) (by exact sd.below ((Below.refl _ wr).alloc (Nat.le_refl _) _).drew (Nat.le_refl _)) hl1 hl2).mono ?_); rintro e w2 ⟨u, rfl, o2, b2⟩; rw [HM.out] at o2; have B2 : Below wr.heap.size wr w2 := ((Below.refl _ wr).alloc (Nat.le_refl _) _).drew.trans (b2.mono (by simp)); have o2 := o2.sv; clear b2)
          all_goals
            have ho3 := ho.below B2 (Nat.le_refl _)
            have hb3 := hb.trans (B2.mono hsz)
            have Z2 := B2.size
            obtain ⟨p, c2, rfl, hx⟩ := o2
            have o2 : Sv w2 (.slice p (iL L).length c2) (iL L) := ⟨p, c2, rfl, hx⟩
            have TP := Lib.hid (tablePaid_any p c2 L c _ o2 HLP.out hLl (by omega) HLM.out)
            have PN := pdT_none HLP.out 0 (a := c) (by unfold big; omega)
            have PZ := (pdT_ok L 0 8 HLP.out (by omega) c).z
            have FB := fo_big HLP.out c
            clear st sd ho hb B2 o2 hx
            go_wp2_with fail
            refine TP.out.mono ?_
            rintro e w4 ⟨rfl, T, b4⟩
            obtain ⟨P, eP⟩ : ∃ P, pdT 0 L c = P := ⟨_, rfl⟩
            obtain ⟨c1, c2, c3⟩ := tp_load T (j := c) (by omega) eP
            rw [eP] at PN PZ
            have Z4 := b4.size
            have ho4 := ho3.below b4 (by omega)
            have hb4 := hb3.trans (b4.mono (by omega))
            clear ho3 hb3 T eP b4
            by_cases hw0 : P.w = 0
            · have := PZ hw0
              subst this
              have NT := Lib.hid (NN.out (by have := PN.1 hw0; omega))
              simp only [Pd.z] at c1 c2 c3
              clear PN PZ FB NY NN
              go_wp2
              go_roundw
              case rel => exact ⟨k + 1, by omega, by go_num, by rw [NT.out]; exact ho4, hb4⟩
              case measure => simp only [intOf]; omega
            · have NT := Lib.hid (NY.out (by
                apply Classical.byContradiction
                intro g
                exact hw0 (PN.2 (by omega))))
              obtain ⟨x, ex⟩ : ∃ x, P.w = x := ⟨_, rfl⟩
              obtain ⟨y, ey⟩ : ∃ x, P.f = x := ⟨_, rfl⟩
              obtain ⟨z, ez⟩ : ∃ x, P.k = x := ⟨_, rfl⟩
              rw [ex] at c1 hw0
              rw [ey] at c2
              rw [ez] at c3
              have d : ((x : Int) == 0) = false := by rw [beq_eq_false_iff_ne]; omega
              clear PN PZ FB NY NN ex ey ez
              go_wp2_with (at_builtin; refine wpList_append_src rfl _ _ rfl w.heap.size _ (iL (ndT cs k)) rfl (ho4.alloc _) _ [(c : Int)] rfl (src_one _ _) (by simp only [List.length_cons, List.length_nil]; omega) (by simp; omega) ?_; intro v5 w5 h5 g5)
              have b5 := (hb4.alloc (by omega) _).trans ((ho4.alloc _).grown (by simp; omega) g5)
              clear ho4 g5 hb4
              go_roundw
              case rel => exact ⟨k + 1, by omega, by go_num, by rw [NT.out]; exact h5, b5⟩
              case measure => simp only [intOf]; omega
        · skip
          go_wp2
          go_region_with (go_at_call 81; go_must (refine (concat2_any _ _ _ _ _ _ (by exact heap_alloc_new wr _) (by exact st.below ((Below.refl _ wr).alloc (Nat.le_refl _) _).drew (Nat.le_refl _)) (by exact sd.below ((Below.refl _ wr).alloc (Nat.le_refl _) _).drew (Nat.le_refl _)) hl1 hl2).mono ?_); rintro e w2 ⟨u, rfl, o2, b2⟩; rw [HM.out] at o2; have B2 : Below wr.heap.size wr w2 := ((Below.refl _ wr).alloc (Nat.le_refl _) _).drew.trans (b2.mono (by simp)); have o2 := o2.sv; clear b2)
          all_goals
            have ho3 := ho.below B2 (Nat.le_refl _)
            have hb3 := hb.trans (B2.mono hsz)
            have Z2 := B2.size
            obtain ⟨p, c2, rfl, hx⟩ := o2
            have o2 : Sv w2 (.slice p (iL L).length c2) (iL L) := ⟨p, c2, rfl, hx⟩
            have TP := Lib.hid (tablePaid_any p c2 L c _ o2 HLP.out hLl (by omega) HLM.out)
            have PN := pdT_none HLP.out 0 (a := c) (by unfold big; omega)
            have PZ := (pdT_ok L 0 8 HLP.out (by omega) c).z
            have FB := fo_big HLP.out c
            clear st sd ho hb B2 o2 hx
            go_wp2_with fail
            refine TP.out.mono ?_
            rintro e w4 ⟨rfl, T, b4⟩
            obtain ⟨P, eP⟩ : ∃ P, pdT 0 L c = P := ⟨_, rfl⟩
            obtain ⟨c1, c2, c3⟩ := tp_load T (j := c) (by omega) eP
            rw [eP] at PN PZ
            have Z4 := b4.size
            have ho4 := ho3.below b4 (by omega)
            have hb4 := hb3.trans (b4.mono (by omega))
            clear ho3 hb3 T eP b4
            by_cases hw0 : P.w = 0
            · have := PZ hw0
              subst this
              have NT := Lib.hid (NN.out (by have := PN.1 hw0; omega))
              simp only [Pd.z] at c1 c2 c3
              clear PN PZ FB NY NN
              go_wp2
              go_roundw
              case rel => exact ⟨k + 1, by omega, by go_num, by rw [NT.out]; exact ho4, hb4⟩
              case measure => simp only [intOf]; omega
            · have NT := Lib.hid (NY.out (by
                apply Classical.byContradiction
                intro g
                exact hw0 (PN.2 (by omega))))
              obtain ⟨x, ex⟩ : ∃ x, P.w = x := ⟨_, rfl⟩
              obtain ⟨y, ey⟩ : ∃ x, P.f = x := ⟨_, rfl⟩
              obtain ⟨z, ez⟩ : ∃ x, P.k = x := ⟨_, rfl⟩
              rw [ex] at c1 hw0
              rw [ey] at c2
              rw [ez] at c3
              have d : ((x : Int) == 0) = false := by rw [beq_eq_false_iff_ne]; omega
              clear PN PZ FB NY NN ex ey ez
              go_wp2_with (at_builtin; refine wpList_append_src rfl _ _ rfl w.heap.size _ (iL (ndT cs k)) rfl (ho4.alloc _) _ [(c : Int)] rfl (src_one _ _) (by simp only [List.length_cons, List.length_nil]; omega) (by simp; omega) ?_; intro v5 w5 h5 g5)
              have b5 := (hb4.alloc (by omega) _).trans ((ho4.alloc _).grown (by simp; omega) g5)
              clear ho4 g5 hb4
              go_roundw
              case rel => exact ⟨k + 1, by omega, by go_num, by rw [NT.out]; exact h5, b5⟩
              case measure => simp only [intOf]; omega
      · have hkl : k = (iL cs).length := by omega
        subst hkl
        go_wp2
        go_ret2
        exact ⟨_, ret_lbl HB.out.symm, by rw [HR.out]; exact ho, hb⟩
  · have hc : cnsB xs = false := by simpa using hc
    have HB := Lib.hid hc
    have HR := Lib.hid (neR_no hc)
    rw [hc] at CA
    clear hc
    go_enter Try.func49, Try.ntmps49
    go_wp2_with fail
    refine CA.out.mono ?_
    rintro e w' ⟨rfl, rfl⟩
    go_wp2_with fail
    go_ret2
    exact ⟨_, ret_lbl HB.out.symm, by rw [HR.out]; exact ow_nil _ _, Below.refl _ _⟩
end Go.Proofs.Ytdgadabfahmdmaa
