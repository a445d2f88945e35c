/-
  The law on RingPieces, walked: whatever number and slice come in, it returns true and writes nothing that was there. No condition but a length that fits int.
-/
import Derived.Test.YtkadmopnfmbedaaSort
namespace Go.Proofs.Ytkadmopnfmbedaa
open Go.RowKit

noncomputable def ringB (m : Int) (xs : List Int) : Bool := cutsB m xs && decide (0 < xs.length)
noncomputable def ringR (xs : List Int) (m : Int) : List Int := if ringB m xs = true then ringL m xs else []
theorem ringR_yes {xs : List Int} {m : Int} (h : ringB m xs = true) : ringR xs m = ringL m xs := by simp [ringR, h]
theorem ringR_no {xs : List Int} {m : Int} (h : ringB m xs = false) : ringR xs m = [] := by simp [ringR, h]
theorem ringB_yes {m : Int} {xs : List Int} (h : cutsB m xs = true) (h0 : 0 < xs.length) : ringB m xs = true := by simp [ringB, h, h0]
theorem ringB_cut {m : Int} {xs : List Int} (h : cutsB m xs = false) : ringB m xs = false := by simp [ringB, h]
theorem ringB_nil {m : Int} {xs : List Int} (h0 : xs.length = 0) : ringB m xs = false := by simp [ringB, h0]
theorem ringR_len (xs : List Int) (m : Int) : (ringR xs m).length ≤ 1099511627776 := by
  unfold ringR
  by_cases h : ringB m xs = true
  · rw [if_pos h]
    simp only [ringB, Bool.and_eq_true] at h
    have := (cutsB_iff.1 h.1).turn.parts_len
    unfold ringL; rw [sortL_len]; omega
  · rw [if_neg h]; simp
theorem ringA_len (m : Int) (xs : List Int) : (ringA m xs).length = (rawP m xs).length := by simp [ringA]
theorem turned_take (xs : List Int) (k : Nat) (h : k < xs.length) : (turned xs).take (k + 1) = (turned xs).take k ++ [xs.getD k 0 - xs.getD 0 0] := by
  rw [List.take_add_one, List.getElem?_eq_getElem (by rw [turned_len]; exact h), ← turned_at h, List.getD_eq_getElem?_getD, List.getElem?_eq_getElem (by rw [turned_len]; exact h)]; rfl
theorem CutsOk.bd {m : Int} {xs : List Int} (h : CutsOk m xs) {k : Nat} (hk : k < xs.length) : 0 ≤ xs.getD k 0 ∧ xs.getD k 0 ≤ 1000 := by
  have := h.2.2.1 k hk; have := h.1; omega

set_option maxHeartbeats 4000000 in
theorem specRingPieces_any (v : Value) (xs : List Int) (m : Int) (w : World) (h : Sp w v xs) (hl : xs.length ≤ 1099511627776) :
    Calls Try.prog 21 #[.int .i64 m, v] w fun e w' => ∃ u, e = .returned (.tuple #[u, .bool (ringB m xs)]) ∧ Ow w' w.heap.size u (ringR xs m) ∧ Below w.heap.size w w' := by
  have hs := h.sv
  by_cases hg : cutsB m xs = true
  · by_cases h0 : xs.length = 0
    · have hr := ringB_nil (m := m) h0
      have HR := Lib.hid (ringR_no hr)
      have HG := Lib.hid hr
      have q0 : ((xs.length : Int) == 0) = true := by rw [beq_iff_eq]; omega
      have H0 := Lib.hid h0
      clear hr h0
      obtain ⟨b, off, cap, rfl, _, _, hbl, hc⟩ := h
      clear hc
      go_enter Try.func21, Try.ntmps21
      go_wp2_with fail
      refine (chCuts_any _ _ _ _ hs hl).mono ?_
      rintro e w1 ⟨rfl, b1⟩
      go_wp2_with fail
      go_ret2
      exact ⟨_, ret_lb rfl HG.out.symm, by rw [HR.out]; exact ow_nil _ _, b1⟩
    · have hr := ringB_yes hg (by omega)
      have HR := Lib.hid (ringR_yes hr)
      have HG := Lib.hid hr
      have hc := cutsB_iff.1 hg
      have hl9 := hc.2.1
      have q0 : ((xs.length : Int) == 0) = false := by rw [beq_eq_false_iff_ne]; omega
      have HC := Lib.hid hc
      have h00 : 0 < xs.length := by omega
      clear hr h0 hc
      have hsp := h
      obtain ⟨b, off, cap, rfl, _, _, hbl, hcl⟩ := h
      go_enter Try.func21, Try.ntmps21
      have HCL := Lib.hid hcl
      clear hcl
      go_wp2_with fail
      refine (chCuts_any _ _ _ _ hs hl).mono ?_
      rintro e w1 ⟨rfl, b1⟩
      obtain ⟨f, ef⟩ : ∃ f, xs.getD 0 0 = f := ⟨_, rfl⟩
      have hc0 : w1.cell? ⟨b, off, none⟩ = some (.int .i64 f) := by
        rw [← ef]
        have := (b1.cell (p := ⟨b, off + 0, none⟩) hbl).trans (HCL.out 0 h00)
        simpa using this
      have hfb := HC.out.bd h00
      rw [ef] at hfb
      have EF := Lib.hid ef
      clear ef
      go_wp2_with fail
      clear hg
      have z1 := b1.size
      go_loopw [7, 24] (fun a i wr => ∃ k : Nat, k ≤ xs.length ∧ i = .int .i64 k ∧ Ow wr w.heap.size a ((turned xs).take k) ∧ Below w.heap.size w wr) (fun _ i _ => xs.length - (intOf i).toNat)
      case atStart => exact ⟨0, Nat.zero_le _, rfl, by simpa using ow_nil w1 w.heap.size, b1⟩
      case round =>
        clear hc0
        obtain ⟨k, hk, rfl, ho, hb⟩ := hrel
        have hsz := hb.size
        have htl : ((turned xs).take k).length ≤ 9 := by rw [List.length_take, turned_len]; omega
        by_cases hlt : k < xs.length
        · have hcell := (hb.cell (p := ⟨b, off + k, none⟩) hbl).trans (HCL.out k hlt)
          have hxb := HC.out.bd hlt
          have TT := Lib.hid (turned_take xs k hlt)
          obtain ⟨x, ex⟩ : ∃ x, xs.getD k 0 = x := ⟨_, rfl⟩
          rw [ex] at hcell hxb
          have EX := Lib.hid ex
          clear ex
          go_wp2_with (at_builtin; refine wpList_append_src rfl _ _ rfl w.heap.size _ ((turned xs).take k) rfl (ho.alloc _) _ [x - f] rfl (src_one _ _) (by simp only [List.length_cons, List.length_nil]; omega) (by simp; omega) ?_; intro v3 w3 h3 g3)
          have b3 := (hb.alloc hsz _).trans ((ho.alloc _).grown (by simp; omega) g3)
          clear ho g3 hb
          go_roundw
          case rel => exact ⟨k + 1, by omega, by go_num, by rw [TT.out, EX.out, EF.out]; exact h3, b3⟩
          case measure => simp only [intOf]; omega
        · have e : (turned xs).take k = turned xs := List.take_of_length_le (by rw [turned_len]; omega)
          rw [e] at ho
          go_wp2_with fail
          refine (chPieces_any m _ (turned xs) _ ho.sv HC.out.turn).mono ?_
          rintro e w4 ⟨u4, rfl, o4, b4⟩
          have o4 := o4.mono hsz
          have b4 := hb.trans (b4.mono hsz)
          clear ho hb
          go_wp2_with fail
          go_ret2
          exact ⟨_, ret_lb rfl HG.out.symm, by rw [HR.out]; exact o4, b4⟩
  · have hg : cutsB m xs = false := by simpa using hg
    have hr := ringB_cut hg
    have HR := Lib.hid (ringR_no hr)
    have HG := Lib.hid hr
    clear hr
    go_enter Try.func21, Try.ntmps21
    go_wp2_with fail
    refine (chCuts_any _ _ _ _ hs hl).mono ?_
    rintro e w1 ⟨rfl, b1⟩
    go_wp2_with fail
    go_ret2
    exact ⟨_, ret_lb rfl HG.out.symm, by rw [HR.out]; exact ow_nil _ _, b1⟩

set_option maxHeartbeats 4000000 in
set_option maxRecDepth 100000 in
theorem implRingPieces_any (v : Value) (xs : List Int) (m : Int) (w : World) (h : Sp w v xs) (hl : xs.length ≤ 1099511627776) :
    Calls Try.prog 22 #[.int .i64 m, v] w fun e w' => ∃ u, e = .returned (.tuple #[u, .bool (ringB m xs)]) ∧ Ow w' w.heap.size u (ringR xs m) ∧ Below w.heap.size w w' := by
  have hs := h.sv
  by_cases hg : cutsB m xs = true
  · by_cases h0 : xs.length = 0
    · have hr := ringB_nil (m := m) h0
      have HR := Lib.hid (ringR_no hr)
      have HG := Lib.hid hr
      have q0 : ((xs.length : Int) == 0) = true := by rw [beq_iff_eq]; omega
      have H0 := Lib.hid h0
      clear hr h0
      obtain ⟨b, off, cap, rfl, _, _, hbl, hc⟩ := h
      clear hc
      go_enter Try.func22, Try.ntmps22
      go_wp2_with fail
      refine (implAreCuts_any _ _ _ _ hs hl).mono ?_
      rintro e w1 ⟨rfl, b1⟩
      go_wp2_with fail
      go_ret2
      exact ⟨_, ret_lb rfl HG.out.symm, by rw [HR.out]; exact ow_nil _ _, b1⟩
    · have hr := ringB_yes hg (by omega)
      have HR := Lib.hid (ringR_yes hr)
      have HG := Lib.hid hr
      have hc := cutsB_iff.1 hg
      have hl9 := hc.2.1
      have q0 : ((xs.length : Int) == 0) = false := by rw [beq_eq_false_iff_ne]; omega
      have HC := Lib.hid hc
      have h00 : 0 < xs.length := by omega
      clear hr h0 hc
      have hsp := h
      obtain ⟨b, off, cap, rfl, _, _, hbl, hcl⟩ := h
      go_enter Try.func22, Try.ntmps22
      clear hcl
      go_wp2_with fail
      refine (implAreCuts_any _ _ _ _ hs hl).mono ?_
      rintro e w1 ⟨rfl, b1⟩
      have h1 := hsp.below b1 (Nat.le_refl _)
      go_wp2_with fail
      refine (partsOf_any _ _ _ _ h1.sv HC.out).mono ?_
      rintro e w2 ⟨rfl, b2⟩
      have b2 := nxt b1 b2
      have z2 := b2.size
      clear b1 h1 hg
      have HXN := Lib.hid (show xs ≠ [] by intro e; rw [e] at h00; simp at h00)
      have hRL : (rawP m xs).length = 19 := rawP_len hl9
      obtain ⟨C, hC⟩ : ∃ C, arrV (rawP m xs) = C := ⟨_, rfl⟩
      rw [hC]
      have hCs : C.size = 19 := by rw [← hC, arrV_size, hRL]
      have hCo : C.all (·.oneCell') = true := by rw [← hC]; simp [arrV, Value.oneCell']
      have HCe := Lib.hid hC
      have HCs := Lib.hid hCs
      have HCo := Lib.hid hCo
      have HRL := Lib.hid hRL
      obtain ⟨n, en⟩ : ∃ n, xs.length = n := ⟨_, rfl⟩
      have hn9 : n ≤ 9 := by omega
      have hn0 : 0 < n := by omega
      obtain ⟨x, ex⟩ : ∃ x, (rawP m xs).getD 0 0 = x := ⟨_, rfl⟩
      obtain ⟨y, ey⟩ : ∃ y, (rawP m xs).getD (2 * n) 0 = y := ⟨_, rfl⟩
      have HE := Lib.hid en
      have EX := Lib.hid ex
      have EY := Lib.hid ey
      have hg2 : (w2.alloc (.cells C 43)).heap[w2.heap.size]? = some (.cells C 43 (0, 0)) := heap_alloc_new w2 _
      have c0 : (w2.alloc (.cells C 43)).cell? ⟨w2.heap.size, 0, none⟩ = some (.int .i64 x) := by
        rw [cell_of_row _ _ _ _ _ _ hg2, ← hC, arrV_at (by omega), ex]
      have c1 : (w2.alloc (.cells C 43)).cell? ⟨w2.heap.size, 2 * n, none⟩ = some (.int .i64 y) := by
        rw [cell_of_row _ _ _ _ _ _ hg2, ← hC, arrV_at (by omega), ey]
      have HG2 := Lib.hid hg2
      clear hC hCs hCo hRL hg2 ex ey
      rw [en]
      clear en hl9 h00
      go_wp2_with (refine wpList_store_row rfl 43 _ _ rfl w2.heap.size C rfl rfl 43 zeroA (by exact heap_alloc_new w2 _) (by rw [HCs.out]; exact Try.arrI) (by rw [HCs.out]; rfl) HCo.out ?_; erw [World.setRow_alloc_new])
      obtain ⟨W, hW⟩ : ∃ W, w2.alloc (.cells C 43) = W := ⟨_, rfl⟩
      have hb2 : Below w.heap.size w W := by rw [← hW]; exact b2.alloc z2 _
      have hg2 := HG2.out
      rw [hW] at c0 c1 hg2 ⊢
      clear hW HG2 b2
      have hf0 : W.frozen? ⟨w2.heap.size, 0, none⟩ = false := frozen_of_row _ _ _ _ _ hg2
      have hf1 : W.frozen? ⟨w2.heap.size, 2 * n, none⟩ = false := frozen_of_row _ _ _ _ _ hg2
      have HG2 := Lib.hid hg2
      clear hg2
      have ht0 : (2 * (n : Int)).toNat = 2 * n := by omega
      have hi0 : (0 : Int) ≤ 2 * (n : Int) := by omega
      have hi1 : 2 * (n : Int) < 19 := by omega
      have hRA := ringA_len m xs
      rw [HRL.out] at hRA
      have hxb : 0 ≤ x ∧ x ≤ 1000 ∧ 0 ≤ y ∧ y ≤ 1000 := by
        have e1 := rawP_at m xs 0
        have e2 := rawP_at m xs (2 * n)
        rw [EX.out] at e1
        rw [EY.out] at e2
        have hb1 := HC.out.bd (k := 0) (by rw [HE.out]; exact hn0)
        have hb2 := HC.out.free (Nat.le_refl _)
        have hb3 := HC.out.1
        have hp := preR_at xs 0 0 (by rw [HE.out]; exact hn0)
        rw [HE.out] at hb2
        unfold cellEnd cellAt at e1 e2
        rw [HE.out] at e1 e2
        rw [if_neg (by omega), if_pos (by omega)] at e1
        rw [if_pos rfl] at e2
        have hp1 := hp.1
        simp only [Nat.mul_zero, frF] at hp1
        rw [hp1] at e1
        omega
      have hxy : IntKind.i64.wrap (x + y) = x + y := IntWalk.i64_in _ (by omega)
      obtain ⟨D, hD⟩ : ∃ D, arrV (ringA m xs) = D := ⟨_, rfl⟩
      have hgD : ((W.setCell ⟨w2.heap.size, 0, none⟩ (.int .i64 (x + y))).setCell ⟨w2.heap.size, 2 * n, none⟩ (.int .i64 0)).heap[w2.heap.size]? = some (.cells D 43 (0, 0)) := by
        have e := heap_setCell_same _ w2.heap.size (2 * n) _ _ (.int .i64 0) (heap_setCell_same W w2.heap.size 0 C 43 (.int .i64 (x + y)) HG2.out)
        rw [e, ← hD]
        unfold ringA
        rw [HE.out, EX.out, EY.out, ← HCe.out]
        simp [arrV, List.map_set]
      have hDs : D.size = 19 := by rw [← hD, arrV_size, hRA]
      have hbD : Below w.heap.size w ((W.setCell ⟨w2.heap.size, 0, none⟩ (.int .i64 (x + y))).setCell ⟨w2.heap.size, 2 * n, none⟩ (.int .i64 0)).drew := ((hb2.setCell z2 _).setCell z2 _).drew
      have HD := Lib.hid hD
      have HGD := Lib.hid hgD
      have HDs := Lib.hid hDs
      have HRA := Lib.hid hRA
      have HRF := Lib.hid (show (ringA m xs).filter posB ≠ [] by
        intro e
        have hp := ringA_perm m xs HXN.out
        rw [e] at hp
        exact HC.out.turn.parts_ne hp.symm.eq_nil)
      clear hD hgD hDs hRA hxb
      have c2 : (W.setCell ⟨w2.heap.size, 0, none⟩ (.int .i64 (x + y))).cell? ⟨w2.heap.size, 2 * n, none⟩ = some (.int .i64 y) := (World.cell?_setCell_other _ _ _ _ (by intro e; simp only [Addr.mk.injEq] at e; omega)).trans c1
      have hf2 : (W.setCell ⟨w2.heap.size, 0, none⟩ (.int .i64 (x + y))).frozen? ⟨w2.heap.size, 2 * n, none⟩ = false := (World.frozen?_setCell _ _ _ _).trans hf1
      go_region_law (fail)
      all_goals
        clear c0 c1 c2 hf0 hf1 hf2 hxy ht0 hi0 hi1
        go_wp2_with (refine wpList_load_row rfl 43 _ rfl w2.heap.size rfl 43 D (0, 0) _ (by exact HGD.out) Try.arrU rfl (by rw [HDs.out]; exact Try.arrI) ?_)
        have zD := hbD.size
        refine (pieces_any D (ringA m xs) _ HD.out.symm HRA.out HRF.out).mono ?_
        rintro e w4 ⟨u4, rfl, o4, b4⟩
        have o4 := o4.mono zD
        have b4 := hbD.trans (b4.mono zD)
        have RE := Lib.hid (ringA_eq m xs HXN.out)
        clear hbD
        go_wp2_with fail
        go_ret2
        exact ⟨_, ret_lb rfl HG.out.symm, by rw [HR.out, ← RE.out]; exact o4, b4⟩
  · have hg : cutsB m xs = false := by simpa using hg
    have hr := ringB_cut hg
    have HR := Lib.hid (ringR_no hr)
    have HG := Lib.hid hr
    clear hr
    go_enter Try.func22, Try.ntmps22
    go_wp2_with fail
    refine (implAreCuts_any _ _ _ _ hs hl).mono ?_
    rintro e w1 ⟨rfl, b1⟩
    go_wp2_with fail
    go_ret2
    exact ⟨_, ret_lb rfl HG.out.symm, by rw [HR.out]; exact ow_nil _ _, b1⟩

set_option maxHeartbeats 4000000 in
theorem lawRingPieces (v : Value) (xs : List Int) (a1 : Int) (w : World) (h : Sv w v xs) (hm : xs.length ≤ 9223372036854775807) :
    Calls Try.prog 7 #[.int .i64 a1, v] w fun e w' => e = .returned (.bool true) ∧ Below w.heap.size w w' := by
  have hs := h
  obtain ⟨p, cap, rfl, hx⟩ := h
  clear hx
  by_cases hbig : 1048576 < xs.length
  · go_enter Try.func7, Try.ntmps7
    go_wp2
    go_ret
    exact ⟨rfl, Below.refl _ _⟩
  · have hl : xs.length ≤ 1099511627776 := by omega
    have hyl : (ringR xs a1).length ≤ 1099511627776 := ringR_len _ _
    go_enter Try.func7, Try.ntmps7
    go_wp2_with fail
    refine (toIntS_any _ _ _ hs hl).mono ?_
    rintro e w1 ⟨u1, rfl, o1, a1', b1⟩
    go_wp2_with fail
    refine (specRingPieces_any _ _ _ _ (o1.sp a1') hl).mono ?_
    rintro e w2 ⟨v2, rfl, o2, b2⟩
    have z1 := b1.size
    have o2 := o2.mono z1
    have t2 := nxt b1 b2
    clear o1 b1 b2 a1'
    go_wp2_with fail
    refine (toIntS_any _ _ _ (hs.below t2 (Nat.le_refl _)) hl).mono ?_
    rintro e w3 ⟨u3, rfl, o3, a3, b3⟩
    have z2 := t2.size
    have p2 := ap_below o2 a3 (Nat.le_refl _)
    have lt3 := own_lt o3 a3
    have q2 := o2.below b3 (Nat.le_refl _)
    have t3 := nxt t2 b3
    clear b3 t2
    go_wp2_with fail
    refine (implRingPieces_any _ _ _ _ (o3.sp a3) hl).mono ?_
    rintro e w4 ⟨g4, rfl, o4, b4⟩
    have z3 := t3.size
    have p4 := ap_above o4 a3 lt3
    have p24 := ap_two o2 o4 (by omega)
    have o4 := o4.mono z3
    have q2 := q2.below b4 (Nat.le_refl _)
    have q3 := o3.below b4 (Nat.le_refl _)
    have t4 := nxt t3 b4
    clear o3 b4 t3 o2
    go_wp2_with fail
    refine (eqIntS_yes _ _ _ _ _ o4.sv q2.sv rfl hyl).mono ?_
    rintro e w5 ⟨rfl, b5⟩
    have o4 := o4.below b5 (Nat.le_refl _)
    have q2 := q2.below b5 (Nat.le_refl _)
    have q3 := q3.below b5 (Nat.le_refl _)
    have t5 := nxt t4 b5
    clear b5 t4
    go_wp2_with fail
    refine (toIntS_any _ _ _ (hs.below t5 (Nat.le_refl _)) hl).mono ?_
    rintro e w6 ⟨u6, rfl, o6, -, b6⟩
    have o4 := o4.below b6 (Nat.le_refl _)
    have q2 := q2.below b6 (Nat.le_refl _)
    have q3 := q3.below b6 (Nat.le_refl _)
    have t6 := nxt t5 b6
    clear b6 t5
    go_wp2_with fail
    refine (eqIntS_yes _ _ _ _ _ q3.sv o6.sv rfl hl).mono ?_
    rintro e w7 ⟨rfl, b7⟩
    have o4 := o4.below b7 (Nat.le_refl _)
    have q2 := q2.below b7 (Nat.le_refl _)
    have q3 := q3.below b7 (Nat.le_refl _)
    have t7 := nxt t6 b7
    have z7 := t7.size
    clear b7 t6 o6
    go_wp2_with fail
    refine (markIntS_any _ xs _ 1 _ q3 hl (by omega) (by omega)).mono ?_
    rintro e w8 ⟨rfl, -, g8⟩
    have o4 := o4.kept g8 p4
    have q2 := q2.kept g8 p2
    have t8 := t7.trans (q3.marked z2 (Nat.le_of_lt (own_lt q3 a3)) g8)
    have z8 := t8.size
    clear q3 g8 t7 a3
    go_wp2_with fail
    refine (eqIntS_yes _ _ _ _ _ o4.sv q2.sv rfl hyl).mono ?_
    rintro e w9 ⟨rfl, b9⟩
    have o4 := o4.below b9 (Nat.le_refl _)
    have q2 := q2.below b9 (Nat.le_refl _)
    have t9 := nxt t8 b9
    have z9 := t9.size
    clear b9 t8
    go_wp2_with fail
    refine (markIntS_any _ (ringR xs a1) _ 1 _ o4 hyl (by omega) (by omega)).mono ?_
    rintro e w10 ⟨rfl, o10, g10⟩
    have q2 := q2.kept g10 p24
    have t10 := t9.trans (o4.marked (Nat.le_refl _) z9 g10)
    clear o4 g10 t9
    go_wp2_with fail
    refine (heldIntS_any _ (ringR xs a1).length 1 _ o10.sv hyl (by omega) (by omega)).mono ?_
    rintro e w10' ⟨rfl, rfl⟩
    go_wp2_with fail
    refine (toIntS_any _ _ _ (hs.below t10 (Nat.le_refl _)) hl).mono ?_
    rintro e w11 ⟨u11, rfl, o11, a11, b11⟩
    have o10 := o10.below b11 (Nat.le_refl _)
    have q2 := q2.below b11 (Nat.le_refl _)
    have t11 := nxt t10 b11
    clear b11 t10
    go_wp2_with fail
    refine (implRingPieces_any _ _ _ _ (o11.sp a11) hl).mono ?_
    rintro e w12 ⟨h12, rfl, o12, b12⟩
    have o10 := o10.below b12 (Nat.le_refl _)
    have q2 := q2.below b12 (Nat.le_refl _)
    have t12 := nxt t11 b12
    clear b12 t11 o11 a11
    go_wp2_with fail
    refine (eqIntS_yes _ _ _ _ _ o12.sv q2.sv rfl hyl).mono ?_
    rintro e w13 ⟨rfl, b13⟩
    have o10 := o10.below b13 (Nat.le_refl _)
    have t13 := nxt t12 b13
    clear b13 t12 o12 q2
    go_wp2_with fail
    refine (heldIntS_any _ (ringR xs a1).length 1 _ o10.sv hyl (by omega) (by omega)).mono ?_
    rintro e w13' ⟨rfl, rfl⟩
    go_wp2_with fail
    go_ret
    exact ⟨rfl, t13⟩
end Go.Proofs.Ytkadmopnfmbedaa
