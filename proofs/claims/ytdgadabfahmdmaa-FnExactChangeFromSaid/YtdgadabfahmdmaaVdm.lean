/-
  ChangeFrom in the model, by its contract. Condition: slices of at most 2^40 numbers.
-/
import Derived.Test.YtdgadabfahmdmaaVdi
namespace Go.Proofs.Ytdgadabfahmdmaa
open Go.RowKit

theorem sp_dropN {w : World} {b off cap k : Nat} {cs : List Nat} (hb : b < w.heap.size) (hk : k ≤ cs.length) (hcap : (iL cs).length ≤ cap) (hcm : cap ≤ maxLen) (hc : ∀ j, j < (iL cs).length → w.cell? ⟨b, off + j, none⟩ = some (.int .i64 ((iL cs).getD j 0))) :
    Sp w (if cap = k then .slice (some ⟨b, off, none⟩) 0 0 else .slice (some ⟨b, off + k, none⟩) (cs.length - k) (cap - k)) (iL (cs.drop k)) := by
  have hlen := iL_len cs
  have := sp_drop (w := w) (k := k) hb (by omega) hcap hcm hc
  rw [iL_drop, hlen] at this
  exact this

set_option maxHeartbeats 8000000 in
set_option maxRecDepth 100000 in
theorem specChangeFrom_any (v : Value) (xs : List Int) (u : Value) (ps : List Int) (a : Int) (w : World) (h : Sp w v xs) (hl : xs.length ≤ 1099511627776) (g : Sp w u ps) (gl : ps.length ≤ 1099511627776) :
    Calls Try.prog 42 #[v, u, .int .i64 a] w fun e w' => ∃ z, e = .returned (.tuple #[z, .bool (ccB xs ps a)]) ∧ Ow w' w.heap.size z (cfR xs ps a) ∧ Below w.heap.size w w' := by
  have CA := Lib.hid (cnPurse_any v u xs ps a w h.sv g.sv hl gl)
  by_cases hq : askP xs ps a = true
  · rw [hq] at CA
    obtain ⟨cs, pl, m, rfl, rfl, hc, hlp, rfl, hn⟩ := askP_iff hq
    have HC := Lib.hid (ccB_of hq)
    have CF0 := fun w' (hb : Below w.heap.size w w') => Lib.hid (cnFrom_any v u cs pl m w' ((h.below hb (Nat.le_refl _)).sv) ((g.below hb (Nat.le_refl _)).sv) hc.pos hlp hc.eight (by omega))
    have HP := Lib.hid hc.pos
    have h8 := hc.eight
    have hlen := iL_len cs
    have hlen2 := iL_len pl
    have HLP := Lib.hid hlp
    obtain ⟨b, off, cap, rfl, hcap, hcm, hbl, hcl⟩ := h
    obtain ⟨b2, off2, cap2, rfl, hcap2, hcm2, hbl2, hcl2⟩ := g
    have HX : Hid (∀ j, j < cs.length → w.cell? ⟨b, off + j, none⟩ = some (.int .i64 ((cs.getD j 0 : Nat) : Int))) := Lib.hid (fun j hj => by rw [← iL_at]; exact hcl j (by omega))
    have HSD : Hid (∀ k, k ≤ cs.length → Sp w (if cap = k then .slice (some ⟨b, off, none⟩) 0 0 else .slice (some ⟨b, off + k, none⟩) (cs.length - k) (cap - k)) (iL (cs.drop k))) := Lib.hid (fun k hk => sp_dropN hbl hk hcap hcm hcl)
    have HSE : Hid (∀ k, k ≤ pl.length → Sp w (if cap2 = k then .slice (some ⟨b2, off2, none⟩) 0 0 else .slice (some ⟨b2, off2 + k, none⟩) (pl.length - k) (cap2 - k)) (iL (pl.drop k))) := Lib.hid (fun k hk => sp_dropN hbl2 hk hcap2 hcm2 hcl2)
    have hcm3 : cap ≤ 9223372036854775807 := by unfold maxLen at hcm; exact hcm
    have hcm4 : cap2 ≤ 9223372036854775807 := by unfold maxLen at hcm2; exact hcm2
    rw [hlen] at hcap
    rw [hlen2] at hcap2
    rw [hlen, hlen2] at CA CF0 ⊢
    have hmk := run_make_row' (P := Try.prog) 22 3 (.int .i64 0) 8 Try.underlying22 Try.infoI rfl .i64 .i64 cs.length (by omega) (by omega)
    have hnn : (0 : Int) ≤ m := by omega
    have hmn : (m : Int) < (m : Int) + 1 := by omega
    clear hcl hcl2 hl gl hc hq hlen hlen2 hcm hcm2 hlp
    go_enter Try.func42, Try.ntmps42
    cases hz : cB cs pl m with
    | true =>
      have HB := Lib.hid (HC.out.trans hz)
      have HR := Lib.hid (cfR_yes HB.out)
      have HF := Lib.hid hz
      clear hz
      go_wp2_with fail
      refine CA.out.mono ?_
      rintro e w0 ⟨rfl, b0⟩
      go_wp2_with fail
      refine (CF0 w0 b0).out.mono ?_
      rintro e w1 ⟨rfl, hr, b1⟩
      have hcell := hr.cell (i := m) (by omega)
      rw [HF.out] at hcell
      have b1 := nxt b0 b1
      have hz1 := b1.size
      have hrow0 := World.rowIs_made w1 (.int .i64 0) cs.length 3
      have b2' : Below w.heap.size w (w1.alloc (.cells (madeCells #[.int .i64 0] cs.length) 3)) := b1.alloc hz1 _
      clear hr b0 CF0 CA
      go_wp2
      go_loopw [2, 32] (fun am q wr => ∃ (i A : Nat), i ≤ cs.length ∧ q = .int .i64 (i : Int) ∧ am = .int .i64 (A : Int) ∧ cB (cs.drop i) (pl.drop i) A = true ∧ A ≤ m ∧ Hid ((pf cs pl m).drop i = pf (cs.drop i) (pl.drop i) A) ∧ wr.rowIs w1.heap.size 3 cs.length (fun j => .int .i64 ((if j < i then (pf cs pl m).getD j 0 else 0 : Nat) : Int)) ∧ Below w.heap.size w wr) (fun _ q _ => cs.length - (intOf q).toNat)
      case atStart => exact ⟨0, m, Nat.zero_le _, rfl, rfl, HF.out, Nat.le_refl _, Lib.hid rfl, hrow0.congr (fun j hj => by simp), b2'⟩
      case round =>
        clear hrow0 b2' hcell b1
        obtain ⟨i, A, hi, rfl, rfl, hfb, hAm, HLF, hrow, hb⟩ := hrel
        by_cases hlt : i < cs.length
        · have hltp : i < pl.length := by have := HLP.out; omega
          have hcell := (hb.cell (p := ⟨b, off + i, none⟩) hbl).trans (HX.out i hlt)
          have hc1 := HP.out _ (at_mem hlt)
          have HST := HSD.out (i + 1) hlt
          have HSU := HSE.out (i + 1) hltp
          have CF : ∀ (v u : Value) (W : World), Below wr.heap.size wr W → Sp w v (iL (cs.drop (i + 1))) → Sp w u (iL (pl.drop (i + 1))) → Hid (Calls Try.prog 72 #[v, u, .int .i64 (A : Int)] W fun e w' => e = .returned (.slice (some ⟨W.heap.size, 0, none⟩) (A + 1) (A + 1)) ∧ w'.rowIs W.heap.size 4 (A + 1) (fun j => .bool (cB (cs.drop (i + 1)) (pl.drop (i + 1)) j)) ∧ Below W.heap.size W w') := fun v u W hW s1 s2 =>
            Lib.hid (cnFrom_any v u (cs.drop (i + 1)) (pl.drop (i + 1)) A W ((s1.below (nxt hb hW) (Nat.le_refl _)).sv) ((s2.below (nxt hb hW) (Nat.le_refl _)).sv) (pos_drop HP.out _) (by have := HLP.out; rw [List.length_drop, List.length_drop]; omega) (by rw [List.length_drop]; omega) (by omega))
          obtain ⟨c, ec⟩ : ∃ c, cs.getD i 0 = c := ⟨_, rfl⟩
          have hc1' := hc1
          rw [ec] at hcell hc1'
          have i3 : (i : Int) + 1 ≤ (cap : Int) := by omega
          have i4 : (i : Int) + 1 ≤ (cs.length : Int) := by omega
          have i6 : (i : Int) + 1 ≤ (cap2 : Int) := by omega
          have i7 : (i : Int) + 1 ≤ (pl.length : Int) := by omega
          have i2 : (0 : Int) ≤ (i : Int) + 1 := by omega
          have i0 : (0 : Int) ≤ (i : Int) := by omega
          have i5 : (i : Int) < (cs.length : Int) := by omega
          have iw : IntKind.i64.wrap ((i : Int) + 1) = (i : Int) + 1 := IntWalk.i64_in _ (by omega)
          have it : ((i : Int) + 1).toNat = i + 1 := by omega
          go_upto_region 7 with (fail)
          go_cut [11] from 37 to 46 (fun x w' => x = .slice (some ⟨wr.heap.size, 0, none⟩) (A + 1) (A + 1) ∧ w'.rowIs wr.heap.size 4 (A + 1) (fun j => .bool (cB (cs.drop (i + 1)) (pl.drop (i + 1)) j)) ∧ Below wr.heap.size wr w')
          case first =>
            by_cases hcc : cap = i + 1
            · subst hcc
              rw [if_pos rfl] at HST
              by_cases hcd : cap2 = i + 1
              · subst hcd
                rw [if_pos rfl] at HSU
                have HST := Lib.hid HST
                have HSU := Lib.hid HSU
                go_region_with (go_at_call 72; go_must (refine (CF _ _ _ (Below.refl _ _).drew HST.out HSU.out).out.mono ?_); rintro e w3 ⟨rfl, hr3, b3⟩)
                all_goals
                  first | go_meet | (go_step; go_meet) | (go_step; go_step; go_meet)
                  case rel => exact ⟨rfl, hr3, (Below.refl _ wr).drew.trans b3⟩

              · rw [if_neg hcd] at HSU
                have HST := Lib.hid HST
                have HSU := Lib.hid HSU
                go_region_with (go_at_call 72; go_must (refine (CF _ _ _ (Below.refl _ _).drew HST.out HSU.out).out.mono ?_); rintro e w3 ⟨rfl, hr3, b3⟩)
                all_goals
                  first | go_meet | (go_step; go_meet) | (go_step; go_step; go_meet)
                  case rel => exact ⟨rfl, hr3, (Below.refl _ wr).drew.trans b3⟩

            · rw [if_neg hcc] at HST
              by_cases hcd : cap2 = i + 1
              · subst hcd
                rw [if_pos rfl] at HSU
                have HST := Lib.hid HST
                have HSU := Lib.hid HSU
                go_region_with (go_at_call 72; go_must (refine (CF _ _ _ (Below.refl _ _).drew HST.out HSU.out).out.mono ?_); rintro e w3 ⟨rfl, hr3, b3⟩)
                all_goals
                  first | go_meet | (go_step; go_meet) | (go_step; go_step; go_meet)
                  case rel => exact ⟨rfl, hr3, (Below.refl _ wr).drew.trans b3⟩

              · rw [if_neg hcd] at HSU
                have HST := Lib.hid HST
                have HSU := Lib.hid HSU
                go_region_with (go_at_call 72; go_must (refine (CF _ _ _ (Below.refl _ _).drew HST.out HSU.out).out.mono ?_); rintro e w3 ⟨rfl, hr3, b3⟩)
                all_goals
                  first | go_meet | (go_step; go_meet) | (go_step; go_step; go_meet)
                  case rel => exact ⟨rfl, hr3, (Below.refl _ wr).drew.trans b3⟩

          case rest =>
            clear HST HSU CF
            obtain ⟨rfl, hr3, b3⟩ := hcut
            obtain ⟨w3, rfl⟩ : ∃ x, x = wc := ⟨wc, rfl⟩
            have hrow3 := rowIs_keep hrow b3
            have hb3 := nxt hb b3
            have hr3 : w3.rowIs wr.heap.size 4 (A + 1) (fun j => .bool (cB (cs.drop (i + 1)) (pl.drop (i + 1)) j)) := hr3
            have HR3 := Lib.hid hr3
            have hgn : wr.heap.size ≠ w1.heap.size := by have := rowIs_lt hrow; omega
            obtain ⟨G, eG⟩ : ∃ G, G = wr.heap.size := ⟨_, rfl⟩
            rw [← eG] at HR3 hgn
            try rw [← eG]
            clear hr3 hrow hb b3 eG
            go_wp2
            go_loopw [2] (fun am wr => ∃ (x t : Nat), x ≤ A ∧ t + x ≤ m ∧ am = .int .i64 (x : Int) ∧ cB (cs.drop i) (pl.drop i) x = true ∧ Hid ((pf cs pl m).drop i = addH t (pf (cs.drop i) (pl.drop i) x)) ∧ wr.rowIs w1.heap.size 3 cs.length (fun j => .int .i64 ((if j < i then (pf cs pl m).getD j 0 else if j = i then t else 0 : Nat) : Int)) ∧ Below w.heap.size w wr ∧ wr.heap[G]? = w3.heap[G]?) (fun am _ => (intOf am).toNat)
            case atStart =>
              refine ⟨A, 0, Nat.le_refl _, by omega, rfl, hfb, Lib.hid (by rw [HLF.out]; exact (addH_zero _).symm), hrow3.congr (fun j hj => ?_), hb3, rfl⟩
              by_cases h2 : j < i
              · rw [if_pos h2, if_pos h2]
              · rw [if_neg h2, if_neg h2]; simp
            case round =>
              clear hrow3 hb3
              obtain ⟨x, t, hxA, htx, rfl, hfx, HL, hrow, hb, hgk⟩ := hrel
              have hcell := (cell_blk hgk).trans (HR3.out.cell (i := x) (by omega))
              have hz := hb.size
              have hold := hrow.cell (i := i) hlt
              rw [if_neg (Nat.lt_irrefl i), if_pos rfl] at hold
              have hfr := hrow.frozen i
              have EQD := drop_consN cs i hlt
              have EQP := drop_consN pl i hltp
              have x0 : (0 : Int) ≤ x := by omega
              have x1 : (x : Int) < (A : Int) + 1 := by omega
              cases hn : cB (cs.drop (i + 1)) (pl.drop (i + 1)) x with
              | true =>
                rw [hn] at hcell
                have LV1 := Lib.hid (pf_leave (c := cs.getD i 0) (p := pl.getD i 0) (cs := cs.drop (i + 1)) (ps := pl.drop (i + 1)) hc1 (a := x) (t := t) (L := (pf cs pl m).drop i) (by rw [← EQD, ← EQP]; exact HL.out) hn)
                have HN := Lib.hid hn
                clear hn EQD EQP
                go_wp2
                go_roundw
                case rel =>
                  refine ⟨i + 1, x, by omega, by go_num, rfl, HN.out, by omega, Lib.hid (drop_next LV1.out), hrow.congr (fun j hj => ?_), hb⟩
                  have e2 := at_drop (L := pf cs pl m) (i := i) (t := t) LV1.out
                  by_cases h2 : j < i
                  · rw [if_pos h2, if_pos (show j < i + 1 by omega)]
                  · by_cases h3 : j = i
                    · subst h3
                      rw [if_neg h2, if_pos rfl, if_pos (show j < j + 1 by omega), e2]
                    · rw [if_neg h2, if_neg h3, if_neg (show ¬ j < i + 1 by omega)]
                case measure => simp only [intOf]; omega
              | false =>
                rw [hn] at hcell
                have TK := pf_take (c := cs.getD i 0) (p := pl.getD i 0) (cs := cs.drop (i + 1)) (ps := pl.drop (i + 1)) hc1 (a := x) (t := t) (L := (pf cs pl m).drop i) (by rw [← EQD, ← EQP]; exact HL.out) hn (by rw [← EQD, ← EQP]; exact hfx)
                rw [← EQD, ← EQP, ec] at TK
                obtain ⟨k1, k2, k3⟩ := TK
                have K2 := Lib.hid k2
                have K3 := Lib.hid k3
                have hw1 : IntKind.i64.wrap ((t : Int) + 1) = (t : Int) + 1 := IntWalk.i64_in _ (by omega)
                have hw2 : IntKind.i64.wrap ((x : Int) - c) = ((x - c : Nat) : Int) := (IntWalk.i64_in _ (by omega)).trans (by omega)
                have REL : Hid (∀ (W : World), W.rowIs w1.heap.size 3 cs.length (fun j => .int .i64 ((if j < i then (pf cs pl m).getD j 0 else if j = i then t else 0 : Nat) : Int)) → Below w.heap.size w W → W.heap[G]? = w3.heap[G]? →
                    (W.setCell ⟨w1.heap.size, i, none⟩ (.int .i64 ((t : Int) + 1))).rowIs w1.heap.size 3 cs.length (fun j => .int .i64 ((if j < i then (pf cs pl m).getD j 0 else if j = i then t + 1 else 0 : Nat) : Int)) ∧ Below w.heap.size w (W.setCell ⟨w1.heap.size, i, none⟩ (.int .i64 ((t : Int) + 1))) ∧ (W.setCell ⟨w1.heap.size, i, none⟩ (.int .i64 ((t : Int) + 1))).heap[G]? = w3.heap[G]?) := Lib.hid (fun W q1 q2 q3 => by
                  refine ⟨(q1.set i _).congr (fun j hj => ?_), q2.setCell hz1 _, (blk_other _ _ _ hgn).trans q3⟩
                  by_cases h3 : j = i
                  · subst h3; rw [if_pos rfl, if_neg (Nat.lt_irrefl j), if_pos rfl]; simp
                  · rw [if_neg h3, if_neg h3, if_neg h3])
                clear hn EQD EQP k2 k3
                go_wp2
                go_roundw
                case rel =>
                  obtain ⟨q1, q2, q3⟩ := REL.out wr hrow hb hgk
                  exact ⟨x - c, t + 1, by omega, by omega, rfl, K2.out, Lib.hid K3.out, q1, q2, q3⟩
                case measure => simp only [intOf]; omega
        · have hie : i = cs.length := by omega
          subst hie
          have HLEN : Hid ((pf cs pl m).length = cs.length) := Lib.hid (pf_len cs pl HLP.out m)
          go_wp2
          go_ret2
          refine ⟨_, ret_lb rfl HB.out.symm, ?_, hb⟩
          rw [HR.out]
          exact (ow_of_row hrow (by rw [iL_len, HLEN.out]) (by unfold maxLen; omega) (fun j hj => by rw [if_pos hj, iL_at])).mono hz1
    | false =>
      have HB := Lib.hid (HC.out.trans hz)
      have HR := Lib.hid (cfR_no HB.out)
      have HF := Lib.hid hz
      clear hz hmk
      go_wp2_with fail
      refine CA.out.mono ?_
      rintro e w0 ⟨rfl, b0⟩
      go_wp2_with fail
      refine (CF0 w0 b0).out.mono ?_
      rintro e w1 ⟨rfl, hr, b1⟩
      have hcell := hr.cell (i := m) (by omega)
      rw [HF.out] at hcell
      have b1 := nxt b0 b1
      clear hr b0 CF0 CA
      go_wp2
      go_ret2
      exact ⟨_, ret_lb rfl HB.out.symm, by rw [HR.out]; exact ow_nil _ _, b1⟩
  · have hq : askP xs ps a = false := by simpa using hq
    rw [hq] at CA
    have HB := Lib.hid (ccB_no hq)
    have HR := Lib.hid (cfR_no HB.out)
    clear hq
    go_enter Try.func42, Try.ntmps42
    go_wp2_with fail
    refine CA.out.mono ?_
    rintro e w1 ⟨rfl, b1⟩
    go_wp2_with fail
    go_ret2
    exact ⟨_, ret_lb rfl HB.out.symm, by rw [HR.out]; exact ow_nil _ _, b1⟩
end Go.Proofs.Ytdgadabfahmdmaa
