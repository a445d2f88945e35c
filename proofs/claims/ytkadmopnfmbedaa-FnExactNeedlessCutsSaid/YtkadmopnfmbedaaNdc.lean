/-
  The law on NeedlessCuts, walked: whatever number and slice come in, it returns true and writes nothing that was there. No condition but a length that fits int.
-/
import Derived.Test.YtkadmopnfmbedaaPay
import Derived.Test.YtkadmopnfmbedaaCrm
import Derived.Deep.RegionWith
import Derived.Deep.DeepMust
namespace Go.Proofs.Ytkadmopnfmbedaa
open Go.RowKit

set_option maxHeartbeats 8000000 in
set_option maxRecDepth 100000 in
theorem specNeedlessCuts_any (v : Value) (xs : List Int) (m : Int) (w : World) (h : Sp w v xs) (hl : xs.length ≤ 1099511627776) :
    Calls Try.prog 19 #[.int .i64 m, v] w fun e w' => ∃ u, e = .returned (.tuple #[u, .bool (ndB xs m)]) ∧ Ow w' w.heap.size u (ndR xs m) ∧ Below w.heap.size w w' := by
  by_cases hg : cutsB m xs = true
  · have hc := cutsB_iff.1 hg
    by_cases hp0 : payB m xs = true
    · have hnd := ndB_yes hg hp0
      have HR := Lib.hid (ndR_yes hnd)
      have HG := Lib.hid hnd
      have hl9 := hc.2.1
      clear hnd
      have hsp := h
      obtain ⟨b, off, cap, rfl, hcap, hcm, hbl, hcl⟩ := h
      have hcm : cap ≤ 9223372036854775807 := by unfold maxLen at hcm; exact hcm
      have HCL := Lib.hid hcl
      have HCO := Lib.hid hc
      clear hcl
      go_enter Try.func19, Try.ntmps19
      go_wp2_with fail
      refine (chCuts_any _ _ _ _ hsp.sv hl).mono ?_
      rintro e w1 ⟨rfl, b1⟩
      have h1 := hsp.below b1 (Nat.le_refl _)
      go_wp2_with fail
      refine (chPay_any _ _ _ _ h1.sv hc).mono ?_
      rintro e w2 ⟨rfl, b2⟩
      have b2 := nxt b1 b2
      clear b1 h1
      go_wp2_with fail
      clear hg hp0 hc
      go_loopw [6, 20] (fun a i wr => ∃ k : Nat, k ≤ xs.length ∧ i = .int .i64 k ∧ Ow wr w.heap.size a (selT (fun k => payB m (rmAt xs k)) k) ∧ Below w.heap.size w wr) (fun _ i _ => xs.length - (intOf i).toNat)
      case atStart => exact ⟨0, Nat.zero_le _, rfl, ow_nil _ _, b2⟩
      case round =>
        skip
        obtain ⟨k, hk, rfl, ho, hb⟩ := hrel
        have hsz := hb.size
        have hsl := selT_len (fun k => payB m (rmAt xs k)) k
        by_cases hlt : k < xs.length
        · have hbw : b < wr.heap.size := Nat.lt_of_lt_of_le hbl hsz
          have hcw : ∀ j, j < xs.length → wr.cell? ⟨b, off + j, none⟩ = some (.int .i64 (xs.getD j 0)) := fun j hj => (hb.cell (p := ⟨b, off + j, none⟩) hbl).trans (HCL.out j hj)
          have st := src_take (w := wr) (b := b) (off := off) (c := cap) hbw hcw hk
          have sd := src_drop (w := wr) (b := b) (off := off) (c := cap - (k + 1)) (k := k + 1) hbw hcw
          have hrm := HCO.out.rm hlt
          have hi0 : (0 : Int) ≤ (k : Int) := by omega
          have hi1 : (k : Int) ≤ (cap : Int) := by omega
          have hi2 : (k : Int) + 1 ≤ (xs.length : Int) := by omega
          have hi3 : (0 : Int) ≤ (k : Int) + 1 := by omega
          have hw : IntKind.i64.wrap ((k : Int) + 1) = (k : Int) + 1 := IntWalk.i64_in _ (by omega)
          have ht : ((k : Int) + 1).toNat = k + 1 := by omega
          have hi4 : (k : Int) ≤ (k : Int) + 1 := by omega
          have hlist : (xs.take k).length + (xs.drop (k + 1)).length ≤ 1000 := by simp only [List.length_take, List.length_drop]; omega
          have hli2 : (xs.take k).length ≤ 1000 := by simp only [List.length_take]; omega
          have hl1 : (xs.take k).length ≤ 1048576 := by omega
          have hl2 : (xs.drop (k + 1)).length ≤ 1048576 := by omega
          clear hcw
          by_cases hp : payB m (rmAt xs k) = true
          · have NT := Lib.hid (selT_yes (P := fun k => payB m (rmAt xs k)) (k := k) hp)
            by_cases hcc : cap = k + 1
            · have sE := src_end (w := wr) (b := b) (off := off) (c := 0) (k := k + 1) (xs := xs) hbw (by omega)
              rw [show xs.length - (k + 1) = 0 by omega] at sE
              clear sd
              subst hcc
              have sd := sE
              clear sE
              go_wp2
              go_region_law (first
                | (go_simp; go_at_call 37; refine (l1Own_any _ (xs.take k) _ (by exact st.below ((Below.refl _ wr).drew) (Nat.le_refl _)) (by omega)).mono ?_; rintro e w1 ⟨v1, rfl, o1, b1⟩; have O1 : Ow w1 wr.heap.size v1 (xs.take k) := o1.mono (by simp); have B1 : Below wr.heap.size wr w1 := (by exact (Below.refl _ wr).drew.trans b1); have Z1 := B1.size; have sd2 := sd.below B1 (Nat.le_refl _); clear o1 b1)
                | (refine step_append_src rfl (.tmp 27) (.tmp 31) rfl wr.heap.size _ (xs.take k) rfl (by exact O1) _ (xs.drop (k + 1)) rfl (by exact sd2) (by omega) Z1 ?_; intro v2 w2 o2 g2; have B2 : Below wr.heap.size wr w2 := (by exact B1.trans (O1.grown Z1 g2)); have Z2 := B2.size; clear O1 g2 B1 Z1)
                | (go_simp; go_at_call 33; refine (chPay_any m _ (rmAt xs k) _ (by first | exact o2.sv | exact o2.sv.below ((Below.refl _ _).drew) (Nat.le_refl _)) hrm).mono ?_; rw [hp]; rintro e w3 ⟨rfl, b3⟩; have B3 : Below wr.heap.size wr w3 := (by first | exact B2.trans (b3.mono Z2) | exact B2.drew.trans (b3.mono Z2)); clear o2 B2 b3 Z2))
              all_goals
                have Z3 := B3.size
                have ho3 := ho.below B3 (Nat.le_refl _)
                have hb3 := hb.trans (B3.mono hsz)
                clear st sd ho hb B3
                go_wp2_with (at_builtin; refine wpList_append_src rfl _ _ rfl w.heap.size _ (selT (fun k => payB m (rmAt xs k)) k) rfl (ho3.alloc _) _ [(k : Int)] rfl (src_one _ _) (by simp only [List.length_cons, List.length_nil]; omega) (by simp; omega) ?_; intro v4 w4 h4 g4)
                have b4 := (hb3.alloc (by omega) _).trans ((ho3.alloc _).grown (by simp; omega) g4)
                clear ho3 g4 hb3
                go_roundw
                case rel => exact ⟨k + 1, by omega, by go_num, by rw [NT.out]; exact h4, b4⟩
                case measure => simp only [intOf]; omega
            · go_wp2
              go_region_law (first
                | (go_simp; go_at_call 37; refine (l1Own_any _ (xs.take k) _ (by exact st.below ((Below.refl _ wr).drew) (Nat.le_refl _)) (by omega)).mono ?_; rintro e w1 ⟨v1, rfl, o1, b1⟩; have O1 : Ow w1 wr.heap.size v1 (xs.take k) := o1.mono (by simp); have B1 : Below wr.heap.size wr w1 := (by exact (Below.refl _ wr).drew.trans b1); have Z1 := B1.size; have sd2 := sd.below B1 (Nat.le_refl _); clear o1 b1)
                | (refine step_append_src rfl (.tmp 27) (.tmp 31) rfl wr.heap.size _ (xs.take k) rfl (by exact O1) _ (xs.drop (k + 1)) rfl (by exact sd2) (by omega) Z1 ?_; intro v2 w2 o2 g2; have B2 : Below wr.heap.size wr w2 := (by exact B1.trans (O1.grown Z1 g2)); have Z2 := B2.size; clear O1 g2 B1 Z1)
                | (go_simp; go_at_call 33; refine (chPay_any m _ (rmAt xs k) _ (by first | exact o2.sv | exact o2.sv.below ((Below.refl _ _).drew) (Nat.le_refl _)) hrm).mono ?_; rw [hp]; rintro e w3 ⟨rfl, b3⟩; have B3 : Below wr.heap.size wr w3 := (by first | exact B2.trans (b3.mono Z2) | exact B2.drew.trans (b3.mono Z2)); clear o2 B2 b3 Z2))
              all_goals
                have Z3 := B3.size
                have ho3 := ho.below B3 (Nat.le_refl _)
                have hb3 := hb.trans (B3.mono hsz)
                clear st sd ho hb B3
                go_wp2_with (at_builtin; refine wpList_append_src rfl _ _ rfl w.heap.size _ (selT (fun k => payB m (rmAt xs k)) k) rfl (ho3.alloc _) _ [(k : Int)] rfl (src_one _ _) (by simp only [List.length_cons, List.length_nil]; omega) (by simp; omega) ?_; intro v4 w4 h4 g4)
                have b4 := (hb3.alloc (by omega) _).trans ((ho3.alloc _).grown (by simp; omega) g4)
                clear ho3 g4 hb3
                go_roundw
                case rel => exact ⟨k + 1, by omega, by go_num, by rw [NT.out]; exact h4, b4⟩
                case measure => simp only [intOf]; omega
          · have hp : payB m (rmAt xs k) = false := by simpa using hp
            have NT := Lib.hid (selT_no (P := fun k => payB m (rmAt xs k)) (k := k) hp)
            by_cases hcc : cap = k + 1
            · have sE := src_end (w := wr) (b := b) (off := off) (c := 0) (k := k + 1) (xs := xs) hbw (by omega)
              rw [show xs.length - (k + 1) = 0 by omega] at sE
              clear sd
              subst hcc
              have sd := sE
              clear sE
              go_wp2
              go_region_law (first
                | (go_simp; go_at_call 37; refine (l1Own_any _ (xs.take k) _ (by exact st.below ((Below.refl _ wr).drew) (Nat.le_refl _)) (by omega)).mono ?_; rintro e w1 ⟨v1, rfl, o1, b1⟩; have O1 : Ow w1 wr.heap.size v1 (xs.take k) := o1.mono (by simp); have B1 : Below wr.heap.size wr w1 := (by exact (Below.refl _ wr).drew.trans b1); have Z1 := B1.size; have sd2 := sd.below B1 (Nat.le_refl _); clear o1 b1)
                | (refine step_append_src rfl (.tmp 27) (.tmp 31) rfl wr.heap.size _ (xs.take k) rfl (by exact O1) _ (xs.drop (k + 1)) rfl (by exact sd2) (by omega) Z1 ?_; intro v2 w2 o2 g2; have B2 : Below wr.heap.size wr w2 := (by exact B1.trans (O1.grown Z1 g2)); have Z2 := B2.size; clear O1 g2 B1 Z1)
                | (go_simp; go_at_call 33; refine (chPay_any m _ (rmAt xs k) _ (by first | exact o2.sv | exact o2.sv.below ((Below.refl _ _).drew) (Nat.le_refl _)) hrm).mono ?_; rw [hp]; rintro e w3 ⟨rfl, b3⟩; have B3 : Below wr.heap.size wr w3 := (by first | exact B2.trans (b3.mono Z2) | exact B2.drew.trans (b3.mono Z2)); clear o2 B2 b3 Z2))
              all_goals
                have Z3 := B3.size
                have ho3 := ho.below B3 (Nat.le_refl _)
                have hb3 := hb.trans (B3.mono hsz)
                clear st sd ho hb B3
                go_wp2
                go_roundw
                case rel => exact ⟨k + 1, by omega, by go_num, by rw [NT.out]; exact ho3, hb3⟩
                case measure => simp only [intOf]; omega
            · go_wp2
              go_region_law (first
                | (go_simp; go_at_call 37; refine (l1Own_any _ (xs.take k) _ (by exact st.below ((Below.refl _ wr).drew) (Nat.le_refl _)) (by omega)).mono ?_; rintro e w1 ⟨v1, rfl, o1, b1⟩; have O1 : Ow w1 wr.heap.size v1 (xs.take k) := o1.mono (by simp); have B1 : Below wr.heap.size wr w1 := (by exact (Below.refl _ wr).drew.trans b1); have Z1 := B1.size; have sd2 := sd.below B1 (Nat.le_refl _); clear o1 b1)
                | (refine step_append_src rfl (.tmp 27) (.tmp 31) rfl wr.heap.size _ (xs.take k) rfl (by exact O1) _ (xs.drop (k + 1)) rfl (by exact sd2) (by omega) Z1 ?_; intro v2 w2 o2 g2; have B2 : Below wr.heap.size wr w2 := (by exact B1.trans (O1.grown Z1 g2)); have Z2 := B2.size; clear O1 g2 B1 Z1)
                | (go_simp; go_at_call 33; refine (chPay_any m _ (rmAt xs k) _ (by first | exact o2.sv | exact o2.sv.below ((Below.refl _ _).drew) (Nat.le_refl _)) hrm).mono ?_; rw [hp]; rintro e w3 ⟨rfl, b3⟩; have B3 : Below wr.heap.size wr w3 := (by first | exact B2.trans (b3.mono Z2) | exact B2.drew.trans (b3.mono Z2)); clear o2 B2 b3 Z2))
              all_goals
                have Z3 := B3.size
                have ho3 := ho.below B3 (Nat.le_refl _)
                have hb3 := hb.trans (B3.mono hsz)
                clear st sd ho hb B3
                go_wp2
                go_roundw
                case rel => exact ⟨k + 1, by omega, by go_num, by rw [NT.out]; exact ho3, hb3⟩
                case measure => simp only [intOf]; omega
        · have hkl : k = xs.length := by omega
          subst hkl
          go_wp2
          go_ret2
          exact ⟨_, ret_lb rfl HG.out.symm, by rw [HR.out]; exact ho, hb⟩
    · have hp0 : payB m xs = false := by simpa using hp0
      have hnd := ndB_pay hp0
      have HR := Lib.hid (ndR_no hnd)
      have HG := Lib.hid hnd
      clear hnd
      go_enter Try.func19, Try.ntmps19
      go_wp2_with fail
      refine (chCuts_any _ _ _ _ h.sv hl).mono ?_
      rintro e w1 ⟨rfl, b1⟩
      have h1 := h.below b1 (Nat.le_refl _)
      go_wp2_with fail
      refine (chPay_any _ _ _ _ h1.sv hc).mono ?_
      rintro e w2 ⟨rfl, b2⟩
      have b2 := nxt b1 b2
      go_wp2_with fail
      go_ret2
      exact ⟨_, ret_lb rfl HG.out.symm, by rw [HR.out]; exact ow_nil _ _, b2⟩
  · have hg : cutsB m xs = false := by simpa using hg
    have hnd := ndB_cut hg
    have HR := Lib.hid (ndR_no hnd)
    have HG := Lib.hid hnd
    clear hnd
    go_enter Try.func19, Try.ntmps19
    go_wp2_with fail
    refine (chCuts_any _ _ _ _ h.sv hl).mono ?_
    rintro e w1 ⟨rfl, b1⟩
    go_wp2_with fail
    go_ret2
    exact ⟨_, ret_lb rfl HG.out.symm, by rw [HR.out]; exact ow_nil _ _, b1⟩

set_option maxHeartbeats 8000000 in
set_option maxRecDepth 100000 in
theorem implNeedlessCuts_any (v : Value) (xs : List Int) (m : Int) (w : World) (h : Sp w v xs) (hl : xs.length ≤ 1099511627776) :
    Calls Try.prog 20 #[.int .i64 m, v] w fun e w' => ∃ u, e = .returned (.tuple #[u, .bool (ndB xs m)]) ∧ Ow w' w.heap.size u (ndR xs m) ∧ Below w.heap.size w w' := by
  by_cases hg : cutsB m xs = true
  · have hc := cutsB_iff.1 hg
    by_cases hp0 : payB m xs = true
    · have hnd := ndB_yes hg hp0
      have HR := Lib.hid (ndR_yes hnd)
      have HG := Lib.hid hnd
      have hl9 := hc.2.1
      clear hnd
      have hsp := h
      obtain ⟨b, off, cap, rfl, hcap, hcm, hbl, hcl⟩ := h
      have hcm : cap ≤ 9223372036854775807 := by unfold maxLen at hcm; exact hcm
      have HCL := Lib.hid hcl
      have HCO := Lib.hid hc
      clear hcl
      go_enter Try.func20, Try.ntmps20
      go_wp2_with fail
      refine (implAreCuts_any _ _ _ _ hsp.sv hl).mono ?_
      rintro e w1 ⟨rfl, b1⟩
      have h1 := hsp.below b1 (Nat.le_refl _)
      go_wp2_with fail
      refine (doPay_any _ _ _ _ h1.sv hc).mono ?_
      rintro e w2 ⟨rfl, b2⟩
      have b2 := nxt b1 b2
      clear b1 h1
      go_wp2_with fail
      clear hg hp0 hc
      have ho0 := (ow_empty w2).mono b2.size
      have hb0 := b2.alloc b2.size (.cells #[] 3)
      go_loopw [6, 21] (fun a i wr => ∃ k : Nat, k ≤ xs.length ∧ i = .int .i64 k ∧ Ow wr w.heap.size a (selT (fun k => payB m (rmAt xs k)) k) ∧ Below w.heap.size w wr) (fun _ i _ => xs.length - (intOf i).toNat)
      case atStart => exact ⟨0, Nat.zero_le _, rfl, ho0, hb0⟩
      case round =>
        clear ho0 hb0
        obtain ⟨k, hk, rfl, ho, hb⟩ := hrel
        have hsz := hb.size
        have hsl := selT_len (fun k => payB m (rmAt xs k)) k
        by_cases hlt : k < xs.length
        · have hbw : b < wr.heap.size := Nat.lt_of_lt_of_le hbl hsz
          have hcw : ∀ j, j < xs.length → wr.cell? ⟨b, off + j, none⟩ = some (.int .i64 (xs.getD j 0)) := fun j hj => (hb.cell (p := ⟨b, off + j, none⟩) hbl).trans (HCL.out j hj)
          have st := src_take (w := wr) (b := b) (off := off) (c := cap) hbw hcw hk
          have sd := src_drop (w := wr) (b := b) (off := off) (c := cap - (k + 1)) (k := k + 1) hbw hcw
          have hrm := HCO.out.rm hlt
          have hi0 : (0 : Int) ≤ (k : Int) := by omega
          have hi1 : (k : Int) ≤ (cap : Int) := by omega
          have hi2 : (k : Int) + 1 ≤ (xs.length : Int) := by omega
          have hi3 : (0 : Int) ≤ (k : Int) + 1 := by omega
          have hw : IntKind.i64.wrap ((k : Int) + 1) = (k : Int) + 1 := IntWalk.i64_in _ (by omega)
          have ht : ((k : Int) + 1).toNat = k + 1 := by omega
          have hi4 : (k : Int) ≤ (k : Int) + 1 := by omega
          have hlist : (xs.take k).length + (xs.drop (k + 1)).length ≤ 1000 := by simp only [List.length_take, List.length_drop]; omega
          have hli2 : (xs.take k).length ≤ 1000 := by simp only [List.length_take]; omega
          have hl1 : (xs.take k).length ≤ 1048576 := by omega
          have hl2 : (xs.drop (k + 1)).length ≤ 1048576 := by omega
          clear hcw
          by_cases hp : payB m (rmAt xs k) = true
          · have NT := Lib.hid (selT_yes (P := fun k => payB m (rmAt xs k)) (k := k) hp)
            by_cases hcc : cap = k + 1
            · have sE := src_end (w := wr) (b := b) (off := off) (c := 0) (k := k + 1) (xs := xs) hbw (by omega)
              rw [show xs.length - (k + 1) = 0 by omega] at sE
              clear sd
              subst hcc
              have sd := sE
              clear sE
              go_wp2
              go_region_with (first
                | (go_at_call 38; go_must (refine (concat2_any _ _ _ _ _ _ (by exact heap_alloc_new wr _) (by exact st.below ((Below.refl _ wr).alloc (Nat.le_refl _) _).drew (Nat.le_refl _)) (by exact sd.below ((Below.refl _ wr).alloc (Nat.le_refl _) _).drew (Nat.le_refl _)) hl1 hl2).mono ?_); rintro e w2 ⟨u, rfl, o2, b2⟩; have B2 : Below wr.heap.size wr w2 := ((Below.refl _ wr).alloc (Nat.le_refl _) _).drew.trans (b2.mono (by simp)); have Z2 := B2.size; clear b2)
                | (go_at_call 34; go_must (refine (doPay_any m _ (rmAt xs k) _ (by first | exact o2.sv | exact o2.sv.below ((Below.refl _ _).drew) (Nat.le_refl _)) hrm).mono ?_); rw [hp]; rintro e w3 ⟨rfl, b3⟩; have B3 : Below wr.heap.size wr w3 := (by first | exact B2.trans (b3.mono Z2) | exact B2.drew.trans (b3.mono Z2)); clear o2 B2 b3 Z2))
              all_goals
                have Z3 := B3.size
                have ho3 := ho.below B3 (Nat.le_refl _)
                have hb3 := hb.trans (B3.mono hsz)
                clear st sd ho hb B3
                go_wp2_with (at_builtin; refine wpList_append_src rfl _ _ rfl w.heap.size _ (selT (fun k => payB m (rmAt xs k)) k) rfl (ho3.alloc _) _ [(k : Int)] rfl (src_one _ _) (by simp only [List.length_cons, List.length_nil]; omega) (by simp; omega) ?_; intro v4 w4 h4 g4)
                have b4 := (hb3.alloc (by omega) _).trans ((ho3.alloc _).grown (by simp; omega) g4)
                clear ho3 g4 hb3
                go_roundw
                case rel => exact ⟨k + 1, by omega, by go_num, by rw [NT.out]; exact h4, b4⟩
                case measure => simp only [intOf]; omega
            · go_wp2
              go_region_with (first
                | (go_at_call 38; go_must (refine (concat2_any _ _ _ _ _ _ (by exact heap_alloc_new wr _) (by exact st.below ((Below.refl _ wr).alloc (Nat.le_refl _) _).drew (Nat.le_refl _)) (by exact sd.below ((Below.refl _ wr).alloc (Nat.le_refl _) _).drew (Nat.le_refl _)) hl1 hl2).mono ?_); rintro e w2 ⟨u, rfl, o2, b2⟩; have B2 : Below wr.heap.size wr w2 := ((Below.refl _ wr).alloc (Nat.le_refl _) _).drew.trans (b2.mono (by simp)); have Z2 := B2.size; clear b2)
                | (go_at_call 34; go_must (refine (doPay_any m _ (rmAt xs k) _ (by first | exact o2.sv | exact o2.sv.below ((Below.refl _ _).drew) (Nat.le_refl _)) hrm).mono ?_); rw [hp]; rintro e w3 ⟨rfl, b3⟩; have B3 : Below wr.heap.size wr w3 := (by first | exact B2.trans (b3.mono Z2) | exact B2.drew.trans (b3.mono Z2)); clear o2 B2 b3 Z2))
              all_goals
                have Z3 := B3.size
                have ho3 := ho.below B3 (Nat.le_refl _)
                have hb3 := hb.trans (B3.mono hsz)
                clear st sd ho hb B3
                go_wp2_with (at_builtin; refine wpList_append_src rfl _ _ rfl w.heap.size _ (selT (fun k => payB m (rmAt xs k)) k) rfl (ho3.alloc _) _ [(k : Int)] rfl (src_one _ _) (by simp only [List.length_cons, List.length_nil]; omega) (by simp; omega) ?_; intro v4 w4 h4 g4)
                have b4 := (hb3.alloc (by omega) _).trans ((ho3.alloc _).grown (by simp; omega) g4)
                clear ho3 g4 hb3
                go_roundw
                case rel => exact ⟨k + 1, by omega, by go_num, by rw [NT.out]; exact h4, b4⟩
                case measure => simp only [intOf]; omega
          · have hp : payB m (rmAt xs k) = false := by simpa using hp
            have NT := Lib.hid (selT_no (P := fun k => payB m (rmAt xs k)) (k := k) hp)
            by_cases hcc : cap = k + 1
            · have sE := src_end (w := wr) (b := b) (off := off) (c := 0) (k := k + 1) (xs := xs) hbw (by omega)
              rw [show xs.length - (k + 1) = 0 by omega] at sE
              clear sd
              subst hcc
              have sd := sE
              clear sE
              go_wp2
              go_region_with (first
                | (go_at_call 38; go_must (refine (concat2_any _ _ _ _ _ _ (by exact heap_alloc_new wr _) (by exact st.below ((Below.refl _ wr).alloc (Nat.le_refl _) _).drew (Nat.le_refl _)) (by exact sd.below ((Below.refl _ wr).alloc (Nat.le_refl _) _).drew (Nat.le_refl _)) hl1 hl2).mono ?_); rintro e w2 ⟨u, rfl, o2, b2⟩; have B2 : Below wr.heap.size wr w2 := ((Below.refl _ wr).alloc (Nat.le_refl _) _).drew.trans (b2.mono (by simp)); have Z2 := B2.size; clear b2)
                | (go_at_call 34; go_must (refine (doPay_any m _ (rmAt xs k) _ (by first | exact o2.sv | exact o2.sv.below ((Below.refl _ _).drew) (Nat.le_refl _)) hrm).mono ?_); rw [hp]; rintro e w3 ⟨rfl, b3⟩; have B3 : Below wr.heap.size wr w3 := (by first | exact B2.trans (b3.mono Z2) | exact B2.drew.trans (b3.mono Z2)); clear o2 B2 b3 Z2))
              all_goals
                have Z3 := B3.size
                have ho3 := ho.below B3 (Nat.le_refl _)
                have hb3 := hb.trans (B3.mono hsz)
                clear st sd ho hb B3
                go_wp2
                go_roundw
                case rel => exact ⟨k + 1, by omega, by go_num, by rw [NT.out]; exact ho3, hb3⟩
                case measure => simp only [intOf]; omega
            · go_wp2
              go_region_with (first
                | (go_at_call 38; go_must (refine (concat2_any _ _ _ _ _ _ (by exact heap_alloc_new wr _) (by exact st.below ((Below.refl _ wr).alloc (Nat.le_refl _) _).drew (Nat.le_refl _)) (by exact sd.below ((Below.refl _ wr).alloc (Nat.le_refl _) _).drew (Nat.le_refl _)) hl1 hl2).mono ?_); rintro e w2 ⟨u, rfl, o2, b2⟩; have B2 : Below wr.heap.size wr w2 := ((Below.refl _ wr).alloc (Nat.le_refl _) _).drew.trans (b2.mono (by simp)); have Z2 := B2.size; clear b2)
                | (go_at_call 34; go_must (refine (doPay_any m _ (rmAt xs k) _ (by first | exact o2.sv | exact o2.sv.below ((Below.refl _ _).drew) (Nat.le_refl _)) hrm).mono ?_); rw [hp]; rintro e w3 ⟨rfl, b3⟩; have B3 : Below wr.heap.size wr w3 := (by first | exact B2.trans (b3.mono Z2) | exact B2.drew.trans (b3.mono Z2)); clear o2 B2 b3 Z2))
              all_goals
                have Z3 := B3.size
                have ho3 := ho.below B3 (Nat.le_refl _)
                have hb3 := hb.trans (B3.mono hsz)
                clear st sd ho hb B3
                go_wp2
                go_roundw
                case rel => exact ⟨k + 1, by omega, by go_num, by rw [NT.out]; exact ho3, hb3⟩
                case measure => simp only [intOf]; omega
        · have hkl : k = xs.length := by omega
          subst hkl
          go_wp2
          go_ret2
          exact ⟨_, ret_lb rfl HG.out.symm, by rw [HR.out]; exact ho, hb⟩
    · have hp0 : payB m xs = false := by simpa using hp0
      have hnd := ndB_pay hp0
      have HR := Lib.hid (ndR_no hnd)
      have HG := Lib.hid hnd
      clear hnd
      go_enter Try.func20, Try.ntmps20
      go_wp2_with fail
      refine (implAreCuts_any _ _ _ _ h.sv hl).mono ?_
      rintro e w1 ⟨rfl, b1⟩
      have h1 := h.below b1 (Nat.le_refl _)
      go_wp2_with fail
      refine (doPay_any _ _ _ _ h1.sv hc).mono ?_
      rintro e w2 ⟨rfl, b2⟩
      have b2 := nxt b1 b2
      go_wp2_with fail
      go_ret2
      exact ⟨_, ret_lb rfl HG.out.symm, by rw [HR.out]; exact ow_nil _ _, b2⟩
  · have hg : cutsB m xs = false := by simpa using hg
    have hnd := ndB_cut hg
    have HR := Lib.hid (ndR_no hnd)
    have HG := Lib.hid hnd
    clear hnd
    go_enter Try.func20, Try.ntmps20
    go_wp2_with fail
    refine (implAreCuts_any _ _ _ _ h.sv hl).mono ?_
    rintro e w1 ⟨rfl, b1⟩
    go_wp2_with fail
    go_ret2
    exact ⟨_, ret_lb rfl HG.out.symm, by rw [HR.out]; exact ow_nil _ _, b1⟩

set_option maxHeartbeats 4000000 in
theorem lawNeedlessCuts (v : Value) (xs : List Int) (a1 : Int) (w : World) (h : Sv w v xs) (hm : xs.length ≤ 9223372036854775807) :
    Calls Try.prog 6 #[.int .i64 a1, v] w fun e w' => e = .returned (.bool true) ∧ Below w.heap.size w w' := by
  have hs := h
  obtain ⟨p, cap, rfl, hx⟩ := h
  clear hx
  by_cases hbig : 1048576 < xs.length
  · go_enter Try.func6, Try.ntmps6
    go_wp2
    go_ret
    exact ⟨rfl, Below.refl _ _⟩
  · have hl : xs.length ≤ 1099511627776 := by omega
    have hyl : (ndR xs a1).length ≤ 1099511627776 := ndR_len _ _
    go_enter Try.func6, Try.ntmps6
    go_wp2_with fail
    refine (toIntS_any _ _ _ hs hl).mono ?_
    rintro e w1 ⟨u1, rfl, o1, a1', b1⟩
    go_wp2_with fail
    refine (specNeedlessCuts_any _ _ _ _ (o1.sp a1') hl).mono ?_
    rintro e w2 ⟨v2, rfl, o2, b2⟩
    have z1 := b1.size
    have o2 := o2.mono z1
    have t2 := nxt b1 b2
    clear o1 b1 b2 a1'
    go_wp2_with fail
    refine (toIntS_any _ _ _ (hs.below t2 (Nat.le_refl _)) hl).mono ?_
    rintro e w3 ⟨u3, rfl, o3, a3, b3⟩
    have z2 := t2.size
    have p2 := ap_below o2 a3 (Nat.le_refl _)
    have lt3 := own_lt o3 a3
    have q2 := o2.below b3 (Nat.le_refl _)
    have t3 := nxt t2 b3
    clear b3 t2
    go_wp2_with fail
    refine (implNeedlessCuts_any _ _ _ _ (o3.sp a3) hl).mono ?_
    rintro e w4 ⟨g4, rfl, o4, b4⟩
    have z3 := t3.size
    have p4 := ap_above o4 a3 lt3
    have p24 := ap_two o2 o4 (by omega)
    have o4 := o4.mono z3
    have q2 := q2.below b4 (Nat.le_refl _)
    have q3 := o3.below b4 (Nat.le_refl _)
    have t4 := nxt t3 b4
    clear o3 b4 t3 o2
    go_wp2_with fail
    refine (eqIntS_yes _ _ _ _ _ o4.sv q2.sv rfl hyl).mono ?_
    rintro e w5 ⟨rfl, b5⟩
    have o4 := o4.below b5 (Nat.le_refl _)
    have q2 := q2.below b5 (Nat.le_refl _)
    have q3 := q3.below b5 (Nat.le_refl _)
    have t5 := nxt t4 b5
    clear b5 t4
    go_wp2_with fail
    refine (toIntS_any _ _ _ (hs.below t5 (Nat.le_refl _)) hl).mono ?_
    rintro e w6 ⟨u6, rfl, o6, -, b6⟩
    have o4 := o4.below b6 (Nat.le_refl _)
    have q2 := q2.below b6 (Nat.le_refl _)
    have q3 := q3.below b6 (Nat.le_refl _)
    have t6 := nxt t5 b6
    clear b6 t5
    go_wp2_with fail
    refine (eqIntS_yes _ _ _ _ _ q3.sv o6.sv rfl hl).mono ?_
    rintro e w7 ⟨rfl, b7⟩
    have o4 := o4.below b7 (Nat.le_refl _)
    have q2 := q2.below b7 (Nat.le_refl _)
    have q3 := q3.below b7 (Nat.le_refl _)
    have t7 := nxt t6 b7
    have z7 := t7.size
    clear b7 t6 o6
    go_wp2_with fail
    refine (markIntS_any _ xs _ 1 _ q3 hl (by omega) (by omega)).mono ?_
    rintro e w8 ⟨rfl, -, g8⟩
    have o4 := o4.kept g8 p4
    have q2 := q2.kept g8 p2
    have t8 := t7.trans (q3.marked z2 (Nat.le_of_lt (own_lt q3 a3)) g8)
    have z8 := t8.size
    clear q3 g8 t7 a3
    go_wp2_with fail
    refine (eqIntS_yes _ _ _ _ _ o4.sv q2.sv rfl hyl).mono ?_
    rintro e w9 ⟨rfl, b9⟩
    have o4 := o4.below b9 (Nat.le_refl _)
    have q2 := q2.below b9 (Nat.le_refl _)
    have t9 := nxt t8 b9
    have z9 := t9.size
    clear b9 t8
    go_wp2_with fail
    refine (markIntS_any _ (ndR xs a1) _ 1 _ o4 hyl (by omega) (by omega)).mono ?_
    rintro e w10 ⟨rfl, o10, g10⟩
    have q2 := q2.kept g10 p24
    have t10 := t9.trans (o4.marked (Nat.le_refl _) z9 g10)
    clear o4 g10 t9
    go_wp2_with fail
    refine (heldIntS_any _ (ndR xs a1).length 1 _ o10.sv hyl (by omega) (by omega)).mono ?_
    rintro e w10' ⟨rfl, rfl⟩
    go_wp2_with fail
    refine (toIntS_any _ _ _ (hs.below t10 (Nat.le_refl _)) hl).mono ?_
    rintro e w11 ⟨u11, rfl, o11, a11, b11⟩
    have o10 := o10.below b11 (Nat.le_refl _)
    have q2 := q2.below b11 (Nat.le_refl _)
    have t11 := nxt t10 b11
    clear b11 t10
    go_wp2_with fail
    refine (implNeedlessCuts_any _ _ _ _ (o11.sp a11) hl).mono ?_
    rintro e w12 ⟨h12, rfl, o12, b12⟩
    have o10 := o10.below b12 (Nat.le_refl _)
    have q2 := q2.below b12 (Nat.le_refl _)
    have t12 := nxt t11 b12
    clear b12 t11 o11 a11
    go_wp2_with fail
    refine (eqIntS_yes _ _ _ _ _ o12.sv q2.sv rfl hyl).mono ?_
    rintro e w13 ⟨rfl, b13⟩
    have o10 := o10.below b13 (Nat.le_refl _)
    have t13 := nxt t12 b13
    clear b13 t12 o12 q2
    go_wp2_with fail
    refine (heldIntS_any _ (ndR xs a1).length 1 _ o10.sv hyl (by omega) (by omega)).mono ?_
    rintro e w13' ⟨rfl, rfl⟩
    go_wp2_with fail
    go_ret
    exact ⟨rfl, t13⟩

end Go.Proofs.Ytkadmopnfmbedaa
