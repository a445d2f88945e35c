/-
  BestChange in the model, by its contract. Condition: slices of at most 2^40 numbers.
-/
import Derived.Test.YtdgadabfahmdmaaVbs
namespace Go.Proofs.Ytdgadabfahmdmaa
open Go.RowKit

theorem addH_zero (l : List Nat) : addH 0 l = l := by cases l <;> simp [addH]
theorem drop_next {L M : List Nat} {i t : Nat} (h : L.drop i = t :: M) : L.drop (i + 1) = M := by
  have := congrArg (List.drop 1) h
  simpa [List.drop_drop, Nat.add_comm] using this
theorem at_drop {L M : List Nat} {i t : Nat} (h : L.drop i = t :: M) : L.getD i 0 = t := by
  have h2 := congrArg (fun l => l[0]?) h
  simp only [List.getElem?_drop, List.getElem?_cons_zero, Nat.add_zero] at h2
  rw [List.getD_eq_getElem?_getD, h2]; rfl
theorem own_at_block {b o l c g : Nat} (h : OwnAt (.slice (some ⟨b, o, none⟩) l c) g) : b = g := by
  unfold OwnAt at h
  simpa [Value.ownBlock] using h
theorem rowIs_lt {w : World} {g n : Nat} {t : TypeId} {f : Nat → Value} (h : w.rowIs g t n f) : g < w.heap.size := by
  obtain ⟨c, hc, _⟩ := h
  exact (Array.getElem?_eq_some_iff.1 hc).1

set_option maxHeartbeats 8000000 in
set_option maxRecDepth 20000 in
theorem specBestChange_any (v : Value) (xs : List Int) (a : Int) (w : World) (h : Sp w v xs) (hl : xs.length ≤ 1099511627776) :
    Calls Try.prog 30 #[v, .int .i64 a] w fun e w' => ∃ u, e = .returned (.tuple #[u, .bool (fcB xs a)]) ∧ Ow w' w.heap.size u (bcR xs a) ∧ Below w.heap.size w w' := by
  by_cases hq : askC xs a = true
  · obtain ⟨cs, m, rfl, hc, rfl, hn⟩ := askC_yes hq
    have CA := Lib.hid (cnAsked_any v (iL cs) m w h.sv hl)
    have CF := fun w' (hb : Below w.heap.size w w') => Lib.hid (cnFew_any v cs m w' ((h.below hb (Nat.le_refl _)).sv) hc.pos hc.eight (by omega))
    rw [hq] at CA
    have B0 := Lib.hid (fun hf => fcB_none hc hn hf)
    have R0 := Lib.hid (fun hf => bcR_no (fcB_none hc hn hf))
    have B1 := Lib.hid (fun hf => fcB_yes hc hn hf)
    have R1 := Lib.hid (fun hf => bcR_yes hc hn hf)
    have ea := fewT_at cs m m (by omega)
    have hfl0 := fewT_len cs m
    have HP := Lib.hid hc.pos
    have h8 := hc.eight
    have hlen := iL_len cs
    obtain ⟨b, off, cap, rfl, hcap, hcm, hbl, hcl⟩ := h
    have HX : Hid (∀ j, j < cs.length → w.cell? ⟨b, off + j, none⟩ = some (.int .i64 ((cs.getD j 0 : Nat) : Int))) := Lib.hid (fun j hj => by rw [← iL_at]; exact hcl j (by omega))
    have HSD : Hid (∀ k, k ≤ cs.length → Sp w (if cap = k then .slice (some ⟨b, off, none⟩) 0 0 else .slice (some ⟨b, off + k, none⟩) (cs.length - k) (cap - k)) (iL (cs.drop k))) := Lib.hid (fun k hk => by
      have := sp_drop (w := w) (k := k) hbl (by omega) hcap hcm hcl
      rw [iL_drop, hlen] at this
      exact this)
    have hcm2 : cap ≤ 9223372036854775807 := by unfold maxLen at hcm; exact hcm
    rw [hlen] at CA CF ⊢
    have hmk := run_make_row' (P := Try.prog) 22 3 (.int .i64 0) 8 Try.underlying22 Try.infoI rfl .i64 .i64 cs.length (by omega) (by omega)
    have hnn : (0 : Int) ≤ m := by omega
    have hmn : (m : Int) < (m : Int) + 1 := by omega
    rw [hlen] at hcap
    clear hcl hl hc hq hlen hcm
    go_enter Try.func30, Try.ntmps30
    go_wp2_with fail
    refine CA.out.mono ?_
    rintro e w0 ⟨rfl, b0⟩
    go_wp2_with fail
    refine (CF w0 b0).out.mono ?_
    rintro e w1 ⟨u, rfl, ho, hoa, b1⟩
    obtain ⟨p, cap2, rfl, hx⟩ := ho.sv
    obtain ⟨g2, o2, rfl, hg2, hc2⟩ := hx (by omega)
    have hcell := hc2 m (by omega)
    rw [ea] at hcell
    rw [hfl0]
    have b1 := nxt b0 b1
    clear hc2 hx ho hoa b0
    by_cases hf : fo cs m < big
    · rw [fwI_yes hf] at hcell ea
      have HB := Lib.hid (B1.out hf)
      have HR := Lib.hid (R1.out hf)
      have hd : ¬ ((fo cs m : Nat) : Int) < 0 := by omega
      have hz1 := b1.size
      have CF2 := (CF (w1.alloc (.cells (madeCells #[.int .i64 0] cs.length) 3)) (b1.alloc hz1 _))
      have HF : Hid (fo cs m < big) := Lib.hid hf
      clear B0 B1 R0 R1 CF hf
      have ea2 : Hid ((fewT cs m).getD m 0 = ((fo cs m : Nat) : Int)) := Lib.hid ea
      obtain ⟨F0, eF0⟩ : ∃ F0, fo cs m = F0 := ⟨_, rfl⟩
      rw [eF0] at hcell hd ea2
      clear ea
      go_wp2_with fail
      refine CF2.out.mono ?_
      rintro e w2 ⟨u, rfl, ho, hoa, b2⟩
      obtain ⟨p, cap3, rfl, hx⟩ := ho.sv
      obtain ⟨g4, o4, rfl, hg4, hc4⟩ := hx (by omega)
      have hcell2 := hc4 m (by omega)
      rw [ea2.out] at hcell2
      rw [hfl0]
      have hrow0 := rowIs_keep (World.rowIs_made w1 (.int .i64 0) cs.length 3) b2
      have b2 : Below w.heap.size w w2 := nxt (b1.alloc hz1 _) b2
      have EF0 := Lib.hid eF0
      clear hx ho hoa hc4 CF2 hmk eF0
      go_wp2
      go_loopw [1, 7, 35] (fun am nd q wr => ∃ (i A : Nat), i ≤ cs.length ∧ q = .int .i64 (i : Int) ∧ am = .int .i64 (A : Int) ∧ nd = .int .i64 (fo (cs.drop i) A : Nat) ∧ fo (cs.drop i) A < big ∧ A ≤ m ∧ Hid ((lf cs m).drop i = lf (cs.drop i) A) ∧ wr.rowIs w1.heap.size 3 cs.length (fun j => .int .i64 ((if j < i then (lf cs m).getD j 0 else 0 : Nat) : Int)) ∧ Below w.heap.size w wr) (fun _ _ q _ => cs.length - (intOf q).toNat)
      case atStart => exact ⟨0, m, Nat.zero_le _, rfl, rfl, by rw [List.drop_zero, EF0.out], HF.out, Nat.le_refl _, Lib.hid rfl, hrow0.congr (fun j hj => by simp), b2⟩
      case round =>
        clear hrow0 b2 hcell hcell2 hd ea2 hg4 hg2
        obtain ⟨i, A, hi, rfl, rfl, rfl, hfb, hAm, HLF, hrow, hb⟩ := hrel
        by_cases hlt : i < cs.length
        · have hcell := (hb.cell (p := ⟨b, off + i, none⟩) hbl).trans (HX.out i hlt)
          have hc1 := HP.out _ (at_mem hlt)
          have HST := HSD.out (i + 1) hlt
          have hfl := Lib.hid (fewT_len (cs.drop (i + 1)) A)
          obtain ⟨c, ec⟩ : ∃ c, cs.getD i 0 = c := ⟨_, rfl⟩
          have hc1' := hc1
          rw [ec] at hcell hc1'
          have i3 : (i : Int) + 1 ≤ (cap : Int) := by omega
          have i4 : (i : Int) + 1 ≤ (cs.length : Int) := by omega
          have i2 : (0 : Int) ≤ (i : Int) + 1 := by omega
          have i0 : (0 : Int) ≤ (i : Int) := by omega
          have i5 : (i : Int) < (cs.length : Int) := by omega
          by_cases hcc : cap = i + 1
          · subst hcc
            rw [if_pos rfl] at HST
            have HST := Lib.hid HST
            have CF := fun (W : World) (hW : Below w.heap.size w W) => Lib.hid (cnFewer_any _ (cs.drop (i + 1)) A W ((HST.out.below hW (Nat.le_refl _)).sv) (pos_drop HP.out _) (by rw [List.length_drop]; omega) (by omega))
            go_wp2_with fail
            refine (CF wr hb).out.mono ?_
            rintro e w3 ⟨u, rfl, ho, hoa, b3⟩
            obtain ⟨p3, cap3, rfl, hx3⟩ := ho.sv
            obtain ⟨g3, o3, rfl, hg3, hc3⟩ := hx3 (by rw [hfl.out]; omega)
            have HC3 : Hid (∀ j, j < A + 1 → w3.cell? ⟨g3, o3 + j, none⟩ = some (.int .i64 (fwI (cs.drop (i + 1)) j))) := Lib.hid (fun j hj => by rw [hc3 j (by rw [hfl.out]; exact hj), fewT_at _ _ _ hj])
            have hg3n : g3 ≠ w1.heap.size := by
              have := own_at_block hoa
              have h4 := rowIs_lt hrow
              omega
            rw [hfl.out]
            have hrow3 := rowIs_keep hrow b3
            have hb3 := nxt hb b3
            clear hrow hb hx3 hc3 ho hoa b3
            go_wp2
            go_loopw [1, 7] (fun am nd wr => ∃ (x t : Nat), x ≤ A ∧ t + x ≤ m ∧ am = .int .i64 (x : Int) ∧ nd = .int .i64 (fo (cs.drop i) x : Nat) ∧ fo (cs.drop i) x < big ∧ Hid ((lf cs m).drop i = addH t (lf (cs.drop i) x)) ∧ wr.rowIs w1.heap.size 3 cs.length (fun j => .int .i64 ((if j < i then (lf cs m).getD j 0 else if j = i then t else 0 : Nat) : Int)) ∧ Below w.heap.size w wr ∧ wr.heap[g3]? = w3.heap[g3]?) (fun am _ _ => (intOf am).toNat)
            case atStart =>
              refine ⟨A, 0, Nat.le_refl _, by omega, rfl, rfl, hfb, Lib.hid (by rw [HLF.out]; exact (addH_zero _).symm), hrow3.congr (fun j hj => ?_), hb3, rfl⟩
              by_cases h2 : j < i
              · rw [if_pos h2, if_pos h2]
              · rw [if_neg h2, if_neg h2]; simp
            case round =>
              obtain ⟨x, t, hxA, htx, rfl, rfl, hfx, HL, hrow, hb, hgk⟩ := hrel
              have hcell := (cell_blk hgk).trans (HC3.out x (by omega))
              have hz := hb.size
              have hold := hrow.cell (i := i) hlt
              rw [if_neg (Nat.lt_irrefl i), if_pos rfl] at hold
              have hfr := hrow.frozen i
              have EQD := Lib.hid (drop_consN cs i hlt)
              have TK := fun hn => lf_take (c := cs.getD i 0) (cs := cs.drop (i + 1)) hc1 (a := x) (t := t) (L := (lf cs m).drop i) (by rw [← EQD.out]; exact HL.out) hn
              have LV := fun hn => lf_leave (c := cs.getD i 0) (cs := cs.drop (i + 1)) hc1 (a := x) (t := t) (L := (lf cs m).drop i) (by rw [← EQD.out]; exact HL.out) hn
              rw [← EQD.out, ec] at TK
              rw [← EQD.out] at LV
              have FBD := fo_big (pos_drop HP.out (i + 1)) x
              have LEN : Hid ((lf cs m).length = cs.length) := Lib.hid (lf_len cs HP.out m)
              have x0 : (0 : Int) ≤ x := by omega
              have x1 : (x : Int) < (A : Int) + 1 := by omega
              obtain ⟨nd, end'⟩ : ∃ nd, fo (cs.drop i) x = nd := ⟨_, rfl⟩
              by_cases hn : fo (cs.drop (i + 1)) x = fo (cs.drop i) x
              · have LV1 := Lib.hid (LV hn)
                have hfb2 : fo (cs.drop (i + 1)) x < big := by omega
                rw [fwI_yes hfb2, hn] at hcell
                have hd : ¬ ((fo (cs.drop i) x : Nat) : Int) < 0 := by omega
                have NE : Hid (fo (cs.drop i) x = fo (cs.drop (i + 1)) x) := Lib.hid hn.symm
                rw [end'] at hcell hd NE ⊢
                clear hn TK LV FBD end'
                go_wp2
                go_roundw
                case rel =>
                  refine ⟨i + 1, x, by omega, by go_num, rfl, by rw [NE.out], hfb2, by omega, Lib.hid (drop_next LV1.out), hrow.congr (fun j hj => ?_), hb⟩
                  have e2 := at_drop (L := lf cs m) (i := i) (t := t) LV1.out
                  by_cases h2 : j < i
                  · rw [if_pos h2, if_pos (show j < i + 1 by omega)]
                  · by_cases h3 : j = i
                    · subst h3
                      rw [if_neg h2, if_pos rfl, if_pos (show j < j + 1 by omega), e2]
                    · rw [if_neg h2, if_neg h3, if_neg (show ¬ j < i + 1 by omega)]
                case measure => simp only [intOf]; omega
              · obtain ⟨k1, k2, k3⟩ := TK hn
                have K3 := Lib.hid k3
                have hw1 : IntKind.i64.wrap ((t : Int) + 1) = (t : Int) + 1 := IntWalk.i64_in _ (by omega)
                have hw2 : IntKind.i64.wrap ((x : Int) - c) = ((x - c : Nat) : Int) := (IntWalk.i64_in _ (by omega)).trans (by omega)
                have K2 : Hid (fo (cs.drop i) (x - c) = nd - 1) := Lib.hid (by omega)
                have hnd1 : 1 ≤ nd := by omega
                have hndb : Hid (nd < big) := Lib.hid (by omega)
                have hw3 : IntKind.i64.wrap ((nd : Int) - 1) = ((nd - 1 : Nat) : Int) := (IntWalk.i64_in _ (by unfold big at hfx; omega)).trans (by omega)
                have REL : Hid (∀ (W : World), W.rowIs w1.heap.size 3 cs.length (fun j => .int .i64 ((if j < i then (lf cs m).getD j 0 else if j = i then t else 0 : Nat) : Int)) → Below w.heap.size w W → W.heap[g3]? = w3.heap[g3]? →
                    (W.setCell ⟨w1.heap.size, i, none⟩ (.int .i64 ((t : Int) + 1))).rowIs w1.heap.size 3 cs.length (fun j => .int .i64 ((if j < i then (lf cs m).getD j 0 else if j = i then t + 1 else 0 : Nat) : Int)) ∧ Below w.heap.size w (W.setCell ⟨w1.heap.size, i, none⟩ (.int .i64 ((t : Int) + 1))) ∧ (W.setCell ⟨w1.heap.size, i, none⟩ (.int .i64 ((t : Int) + 1))).heap[g3]? = w3.heap[g3]?) := Lib.hid (fun W q1 q2 q3 => by
                  refine ⟨(q1.set i _).congr (fun j hj => ?_), q2.setCell hz1 _, (blk_other _ _ _ hg3n).trans q3⟩
                  by_cases h3 : j = i
                  · subst h3; rw [if_pos rfl, if_neg (Nat.lt_irrefl j), if_pos rfl]; simp
                  · rw [if_neg h3, if_neg h3, if_neg h3])
                by_cases hfb2 : fo (cs.drop (i + 1)) x < big
                · rw [fwI_yes hfb2] at hcell
                  have hd : ¬ ((fo (cs.drop (i + 1)) x : Nat) : Int) < 0 := by omega
                  have dne : (((fo (cs.drop (i + 1)) x : Nat) : Int) != (nd : Int)) = true := by rw [bne_iff_ne]; omega
                  obtain ⟨f2, ef2⟩ : ∃ f2, fo (cs.drop (i + 1)) x = f2 := ⟨_, rfl⟩
                  rw [ef2] at hcell hd dne
                  rw [end']
                  clear hn TK LV FBD end' ef2 k2 k3 hfb2
                  go_wp2
                  go_roundw
                  case rel =>
                    obtain ⟨q1, q2, q3⟩ := REL.out wr hrow hb hgk
                    exact ⟨x - c, t + 1, by omega, by omega, rfl, by rw [K2.out], by rw [K2.out]; have := hndb.out; omega, Lib.hid K3.out, q1, q2, q3⟩
                  case measure => simp only [intOf]; omega
                · rw [fwI_no hfb2] at hcell
                  rw [end']
                  clear hn TK LV FBD end' k2 k3 hfb2
                  go_wp2
                  go_roundw
                  case rel =>
                    obtain ⟨q1, q2, q3⟩ := REL.out wr hrow hb hgk
                    exact ⟨x - c, t + 1, by omega, by omega, rfl, by rw [K2.out], by rw [K2.out]; have := hndb.out; omega, Lib.hid K3.out, q1, q2, q3⟩
                  case measure => simp only [intOf]; omega
          · rw [if_neg hcc] at HST
            have HST := Lib.hid HST
            have CF := fun (W : World) (hW : Below w.heap.size w W) => Lib.hid (cnFewer_any _ (cs.drop (i + 1)) A W ((HST.out.below hW (Nat.le_refl _)).sv) (pos_drop HP.out _) (by rw [List.length_drop]; omega) (by omega))
            go_wp2_with fail
            refine (CF wr hb).out.mono ?_
            rintro e w3 ⟨u, rfl, ho, hoa, b3⟩
            obtain ⟨p3, cap3, rfl, hx3⟩ := ho.sv
            obtain ⟨g3, o3, rfl, hg3, hc3⟩ := hx3 (by rw [hfl.out]; omega)
            have HC3 : Hid (∀ j, j < A + 1 → w3.cell? ⟨g3, o3 + j, none⟩ = some (.int .i64 (fwI (cs.drop (i + 1)) j))) := Lib.hid (fun j hj => by rw [hc3 j (by rw [hfl.out]; exact hj), fewT_at _ _ _ hj])
            have hg3n : g3 ≠ w1.heap.size := by
              have := own_at_block hoa
              have h4 := rowIs_lt hrow
              omega
            rw [hfl.out]
            have hrow3 := rowIs_keep hrow b3
            have hb3 := nxt hb b3
            clear hrow hb hx3 hc3 ho hoa b3
            go_wp2
            go_loopw [1, 7] (fun am nd wr => ∃ (x t : Nat), x ≤ A ∧ t + x ≤ m ∧ am = .int .i64 (x : Int) ∧ nd = .int .i64 (fo (cs.drop i) x : Nat) ∧ fo (cs.drop i) x < big ∧ Hid ((lf cs m).drop i = addH t (lf (cs.drop i) x)) ∧ wr.rowIs w1.heap.size 3 cs.length (fun j => .int .i64 ((if j < i then (lf cs m).getD j 0 else if j = i then t else 0 : Nat) : Int)) ∧ Below w.heap.size w wr ∧ wr.heap[g3]? = w3.heap[g3]?) (fun am _ _ => (intOf am).toNat)
            case atStart =>
              refine ⟨A, 0, Nat.le_refl _, by omega, rfl, rfl, hfb, Lib.hid (by rw [HLF.out]; exact (addH_zero _).symm), hrow3.congr (fun j hj => ?_), hb3, rfl⟩
              by_cases h2 : j < i
              · rw [if_pos h2, if_pos h2]
              · rw [if_neg h2, if_neg h2]; simp
            case round =>
              obtain ⟨x, t, hxA, htx, rfl, rfl, hfx, HL, hrow, hb, hgk⟩ := hrel
              have hcell := (cell_blk hgk).trans (HC3.out x (by omega))
              have hz := hb.size
              have hold := hrow.cell (i := i) hlt
              rw [if_neg (Nat.lt_irrefl i), if_pos rfl] at hold
              have hfr := hrow.frozen i
              have EQD := Lib.hid (drop_consN cs i hlt)
              have TK := fun hn => lf_take (c := cs.getD i 0) (cs := cs.drop (i + 1)) hc1 (a := x) (t := t) (L := (lf cs m).drop i) (by rw [← EQD.out]; exact HL.out) hn
              have LV := fun hn => lf_leave (c := cs.getD i 0) (cs := cs.drop (i + 1)) hc1 (a := x) (t := t) (L := (lf cs m).drop i) (by rw [← EQD.out]; exact HL.out) hn
              rw [← EQD.out, ec] at TK
              rw [← EQD.out] at LV
              have FBD := fo_big (pos_drop HP.out (i + 1)) x
              have LEN : Hid ((lf cs m).length = cs.length) := Lib.hid (lf_len cs HP.out m)
              have x0 : (0 : Int) ≤ x := by omega
              have x1 : (x : Int) < (A : Int) + 1 := by omega
              obtain ⟨nd, end'⟩ : ∃ nd, fo (cs.drop i) x = nd := ⟨_, rfl⟩
              by_cases hn : fo (cs.drop (i + 1)) x = fo (cs.drop i) x
              · have LV1 := Lib.hid (LV hn)
                have hfb2 : fo (cs.drop (i + 1)) x < big := by omega
                rw [fwI_yes hfb2, hn] at hcell
                have hd : ¬ ((fo (cs.drop i) x : Nat) : Int) < 0 := by omega
                have NE : Hid (fo (cs.drop i) x = fo (cs.drop (i + 1)) x) := Lib.hid hn.symm
                rw [end'] at hcell hd NE ⊢
                clear hn TK LV FBD end'
                go_wp2
                go_roundw
                case rel =>
                  refine ⟨i + 1, x, by omega, by go_num, rfl, by rw [NE.out], hfb2, by omega, Lib.hid (drop_next LV1.out), hrow.congr (fun j hj => ?_), hb⟩
                  have e2 := at_drop (L := lf cs m) (i := i) (t := t) LV1.out
                  by_cases h2 : j < i
                  · rw [if_pos h2, if_pos (show j < i + 1 by omega)]
                  · by_cases h3 : j = i
                    · subst h3
                      rw [if_neg h2, if_pos rfl, if_pos (show j < j + 1 by omega), e2]
                    · rw [if_neg h2, if_neg h3, if_neg (show ¬ j < i + 1 by omega)]
                case measure => simp only [intOf]; omega
              · obtain ⟨k1, k2, k3⟩ := TK hn
                have K3 := Lib.hid k3
                have hw1 : IntKind.i64.wrap ((t : Int) + 1) = (t : Int) + 1 := IntWalk.i64_in _ (by omega)
                have hw2 : IntKind.i64.wrap ((x : Int) - c) = ((x - c : Nat) : Int) := (IntWalk.i64_in _ (by omega)).trans (by omega)
                have K2 : Hid (fo (cs.drop i) (x - c) = nd - 1) := Lib.hid (by omega)
                have hnd1 : 1 ≤ nd := by omega
                have hndb : Hid (nd < big) := Lib.hid (by omega)
                have hw3 : IntKind.i64.wrap ((nd : Int) - 1) = ((nd - 1 : Nat) : Int) := (IntWalk.i64_in _ (by unfold big at hfx; omega)).trans (by omega)
                have REL : Hid (∀ (W : World), W.rowIs w1.heap.size 3 cs.length (fun j => .int .i64 ((if j < i then (lf cs m).getD j 0 else if j = i then t else 0 : Nat) : Int)) → Below w.heap.size w W → W.heap[g3]? = w3.heap[g3]? →
                    (W.setCell ⟨w1.heap.size, i, none⟩ (.int .i64 ((t : Int) + 1))).rowIs w1.heap.size 3 cs.length (fun j => .int .i64 ((if j < i then (lf cs m).getD j 0 else if j = i then t + 1 else 0 : Nat) : Int)) ∧ Below w.heap.size w (W.setCell ⟨w1.heap.size, i, none⟩ (.int .i64 ((t : Int) + 1))) ∧ (W.setCell ⟨w1.heap.size, i, none⟩ (.int .i64 ((t : Int) + 1))).heap[g3]? = w3.heap[g3]?) := Lib.hid (fun W q1 q2 q3 => by
                  refine ⟨(q1.set i _).congr (fun j hj => ?_), q2.setCell hz1 _, (blk_other _ _ _ hg3n).trans q3⟩
                  by_cases h3 : j = i
                  · subst h3; rw [if_pos rfl, if_neg (Nat.lt_irrefl j), if_pos rfl]; simp
                  · rw [if_neg h3, if_neg h3, if_neg h3])
                by_cases hfb2 : fo (cs.drop (i + 1)) x < big
                · rw [fwI_yes hfb2] at hcell
                  have hd : ¬ ((fo (cs.drop (i + 1)) x : Nat) : Int) < 0 := by omega
                  have dne : (((fo (cs.drop (i + 1)) x : Nat) : Int) != (nd : Int)) = true := by rw [bne_iff_ne]; omega
                  obtain ⟨f2, ef2⟩ : ∃ f2, fo (cs.drop (i + 1)) x = f2 := ⟨_, rfl⟩
                  rw [ef2] at hcell hd dne
                  rw [end']
                  clear hn TK LV FBD end' ef2 k2 k3 hfb2
                  go_wp2
                  go_roundw
                  case rel =>
                    obtain ⟨q1, q2, q3⟩ := REL.out wr hrow hb hgk
                    exact ⟨x - c, t + 1, by omega, by omega, rfl, by rw [K2.out], by rw [K2.out]; have := hndb.out; omega, Lib.hid K3.out, q1, q2, q3⟩
                  case measure => simp only [intOf]; omega
                · rw [fwI_no hfb2] at hcell
                  rw [end']
                  clear hn TK LV FBD end' k2 k3 hfb2
                  go_wp2
                  go_roundw
                  case rel =>
                    obtain ⟨q1, q2, q3⟩ := REL.out wr hrow hb hgk
                    exact ⟨x - c, t + 1, by omega, by omega, rfl, by rw [K2.out], by rw [K2.out]; have := hndb.out; omega, Lib.hid K3.out, q1, q2, q3⟩
                  case measure => simp only [intOf]; omega
        · have hie : i = cs.length := by omega
          subst hie
          have HLEN : Hid ((lf cs m).length = cs.length) := Lib.hid (lf_len cs HP.out m)
          go_wp2
          go_ret2
          refine ⟨_, ret_lb rfl HB.out.symm, ?_, hb⟩
          rw [HR.out]
          exact (ow_of_row hrow (by rw [iL_len, HLEN.out]) (by unfold maxLen; omega) (fun j hj => by rw [if_pos hj, iL_at])).mono hz1
    · rw [fwI_no hf] at hcell
      have HB := Lib.hid (B0.out hf)
      have HR := Lib.hid (R0.out hf)
      clear B0 B1 R0 R1 CF hmk ea
      go_wp2
      go_ret2
      exact ⟨_, ret_lb rfl HB.out.symm, by rw [HR.out]; exact ow_nil _ _, b1⟩
  · have hq : askC xs a = false := by simpa using hq
    have CA := Lib.hid (cnAsked_any v xs a w h.sv hl)
    rw [hq] at CA
    have HB := Lib.hid (fcB_no hq)
    have HR := Lib.hid (bcR_no (fcB_no hq))
    go_enter Try.func30, Try.ntmps30
    go_wp2_with fail
    refine CA.out.mono ?_
    rintro e w1 ⟨rfl, b1⟩
    go_wp2_with fail
    go_ret2
    exact ⟨_, ret_lb rfl HB.out.symm, by rw [HR.out]; exact ow_nil _ _, b1⟩
end Go.Proofs.Ytdgadabfahmdmaa
