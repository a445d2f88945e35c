/-
  Checked cards in the model, by contract. No condition.
-/
import Derived.Test.YtgojlabkngnkdaaKcr
import Derived.Test.YtgojlabkngnkdaaKgt
import Derived.Test.YtgojlabkngnkdaaBlen
import Derived.Deep.RegionHeld3
import Derived.Deep.CutRange
namespace Go.Proofs.Ytgojlabkngnkdaa
open Go.RowKit

theorem lenC_pos {k : Nat} (h : 1 ≤ k) : 0 < lenC k := by
  cases k with
  | zero => omega
  | succ k => simp only [lenC, plC]; split <;> omega
theorem cell_new1 (w : World) (n : Int) : (w.alloc (.cells #[.int .i64 n] 3)).cell? ⟨w.heap.size, 0, none⟩ = some (.int .i64 n) := by
  have h := heap_alloc_new w (.cells #[.int .i64 n] 3)
  simp only [World.cell?, h]
  rfl
theorem cc_no {n : Int} (h : inB n 2 128 = false) : ccN n = 0 ∧ ccR n = [] := by simp [ccN, ccR, h]
theorem cc_yes {n : Int} (h : inB n 2 128 = true) : ccN n = n ∧ ccR n = ckL n.toNat := by simp [ccN, ccR, h]

set_option maxHeartbeats 16000000 in
set_option maxRecDepth 100000 in
theorem specCheckedCards_any (n : Int) (w : World) :
    Calls Try.prog 16 #[.int .i64 n] w fun e w' => ∃ u, e = .returned (.tuple #[.agg #[.int .i64 (ccN n), u], .bool (inB n 2 128)]) ∧ Svv w' u (ccR n) ∧ Below w.heap.size w w' := by
  cases hg : inB n 2 128 with
  | false =>
    rw [(cc_no hg).1, (cc_no hg).2]
    have LI := fun W => Lib.hid (show Calls Try.prog 37 #[.int .i64 n, .int .i64 2, .int .i64 128] W fun e w' => e = .returned (.bool false) ∧ W = w' from by rw [← hg]; exact l1In_any _ _ _ _)
    clear hg
    go_enter Try.func16, Try.ntmps16
    go_wp2_with (go_at_call 37; refine (LI _).out.mono ?_; rintro e w' ⟨rfl, rfl⟩)
    refine bodyPost_ret (v := .tuple #[.agg #[.int .i64 0, .slice none 0 0], .bool false]) (by simp [results, Try.results16, go_sem]) rfl ⟨_, rfl, ⟨none, 0, rfl, fun h => by simp at h⟩, (Below.refl _ _).alloc (Nat.le_refl _) _⟩
  | true =>
    rw [(cc_yes hg).1, (cc_yes hg).2]
    have LI := fun W => Lib.hid (show Calls Try.prog 37 #[.int .i64 n, .int .i64 2, .int .i64 128] W fun e w' => e = .returned (.bool true) ∧ W = w' from by rw [← hg]; exact l1In_any _ _ _ _)
    have hb := inB_iff.1 hg
    obtain ⟨m, rfl⟩ : ∃ m : Nat, n = m := ⟨n.toNat, by omega⟩
    have hm : m ≤ 128 := by omega
    have FE := fun W => Lib.hid (caFewest_any (m : Int) W (by omega) hb.2)
    have L7 := flen_le (n := (m : Int)) (by omega) hb.2
    have L1 := flen_pos (n := (m : Int)) hb.1 hb.2
    have CKE := Lib.hid (fun p => ckL_eq m p)
    rw [Int.toNat_natCast]
    have CB := Lib.hid (fun (k : Nat) (hk : k ≤ 6) W => caBinary_any m k W hm hk)
    obtain ⟨F, eF⟩ : ∃ F, flen (m : Int) = F := ⟨_, rfl⟩
    rw [eF] at FE L7 L1 CKE
    clear eF hg hb
    obtain ⟨W, eW⟩ : ∃ W, (w.alloc (.cells #[.int .i64 0, .slice none 0 0] 36)).alloc (.cells #[.int .i64 (m : Int), .slice none 0 0] 36) = W := ⟨_, rfl⟩
    have hb0 : Below w.heap.size w W := by rw [← eW]; exact ((Below.refl _ w).alloc (Nat.le_refl _) _).alloc (by simp) _
    have HZ : w.heap.size + 1 + 1 ≤ W.heap.size := by rw [← eW]; simp
    have k1 : W.heap[w.heap.size]? = some (.cells #[.int .i64 0, .slice none 0 0] 36 (0, 0)) := by rw [← eW]; exact blk_a _ _ _
    have k2 : W.heap[w.heap.size + 1]? = some (.cells #[.int .i64 (m : Int), .slice none 0 0] 36 (0, 0)) := by rw [← eW]; exact blk_b _ _ _
    have EW := Lib.hid eW
    clear eW
    go_enter Try.func16, Try.ntmps16
    go_wp2_with (go_at_call 37; refine (LI _).out.mono ?_; rintro e w' ⟨rfl, rfl⟩)
    rw [EW.out]
    clear EW
    go_loopw [5, 6] (fun d pq wr => ∃ (k l : Nat) (s : Value) (vals : List Value), k ≤ F ∧ lenC k ≤ l ∧ (k < F → l < plC k) ∧ (k = F → l = lenC F) ∧ l ≤ 11 ∧ pq = .int .i64 ((l : Int) + 1) ∧ Hid (Rd wr (w.heap.size + 1 + 1) s vals ((preL m l).map sL) d (dgL k)) ∧ wr.heap[w.heap.size + 1]? = some (.cells #[.int .i64 (m : Int), s] 36 (0, 0)) ∧ wr.heap[w.heap.size]? = some (.cells #[.int .i64 0, .slice none 0 0] 36 (0, 0)) ∧ Below w.heap.size w wr ∧ w.heap.size + 1 + 1 ≤ wr.heap.size) (fun _ pq _ => 20 - (intOf pq).toNat)
    case atStart => exact ⟨0, 0, _, [], Nat.zero_le _, Nat.le_refl _, fun _ => by decide, fun e => by rw [← e]; rfl, by omega, rfl, Lib.hid (Rd.nil _ _), k2, k1, hb0, HZ⟩
    case round =>
      clear k1 k2 hb0 HZ
      obtain ⟨k, l, s, vals, hk, hl1, hl2, hl3, hl4, rfl, HD, h2, h1, hb, zW⟩ := hrel
      have hw1 : IntKind.i64.wrap ((l : Int) + 1 - 1) = (l : Int) := by rw [show ((l : Int) + 1 - 1) = (l : Int) by omega]; exact IntWalk.i64_in _ (by omega)
      obtain ⟨⟨sp, sc, rfl⟩, dp, dc, rfl⟩ := HD.out.form
      obtain ⟨c20, c21, f20, f21⟩ := cells2_of h2
      have HB := Lib.hid hb
      have H1 := Lib.hid h1
      have H2 := Lib.hid h2
      by_cases hlt : k < F
      · have LF := lenC_facts ⟨k, by omega⟩ ⟨l, by omega⟩ hl1 (hl2 hlt)
        simp only at LF
        have LL := lenC_lt ⟨k, by omega⟩
        have hpl : ((preL m l).map sL).length ≤ 11 := by rw [List.length_map, preL_len]; exact hl4
        have hdl := dgL_len k
        have hda := dgL_succ k
        have PS := Lib.hid (show ((preL m (l + 1)).map sL) = (preL m l).map sL ++ [sL (preF m l)] by rw [preL_succ, List.map_append]; rfl)
        obtain ⟨pl, epl⟩ : ∃ pl, (preL m l).map sL = pl := ⟨_, rfl⟩
        obtain ⟨ds, eds⟩ : ∃ ds, dgL k = ds := ⟨_, rfl⟩
        rw [epl] at HD hpl PS c21 H2
        rw [eds] at HD hdl hda ⊢
        have hdlt : ((ds.length : Nat) : Int) < (F : Int) := by omega
        have HDL := Lib.hid hdl
        have HDA := Lib.hid hda
        have EDS := Lib.hid eds
        clear epl eds hdl hda h1 h2 hb
        by_cases hp : isPw (l + 1) = true
        · have hq : (bits .and .i64 ((l : Int) + 1) (l : Int) == 0) = true := by have := pw_bits ⟨l, by omega⟩; simp only at this; rw [Int.natCast_add] at this; rw [show ((l : Int) + 1) = (l : Int) + ((1 : Nat) : Int) from rfl, this, hp]
          have hne := LF.1.1 hp
          have HS0 : Hid (sL (preF m l) = []) := Lib.hid (by rw [preF_pw hp]; exact sL_no)
          have t2 : (wr.alloc (.cells #[.slice none 0 0] 22)).cell? ⟨w.heap.size + 1, 1, none⟩ = some (.slice sp pl.length sc) := (World.cell?_alloc_past _ _ _ (by omega)).trans c21
          clear hp LF
          go_wp2_with (first
            | (go_at_call 38; refine (FE _).out.mono ?_; rintro e w' ⟨rfl, rfl⟩)
            | (at_builtin; refine wpList_append_rowV rfl _ _ rfl (w.heap.size + 1 + 1) wr.heap.size _ vals pl rfl (HD.out.rows.below ((Below.refl _ _).alloc (Nat.le_refl _) _) (Nat.le_refl _)) wr.heap.size (.slice none 0 0) [] rfl (by simp) (World.ownsRow_nil _ _ _ _) (fun k hk => by cases hk) (by omega) (by simp; omega) ?_; intro v3 w3 h3 b3 g3; have R3 := Lib.hid ((HD.out.below ((Below.refl _ _).alloc (Nat.le_refl _) _) (Nat.le_refl _)).row h3 g3 (fun g hg => by cases hg)); have HB3 := Lib.hid (HB.out.trans ((((Below.refl wr.heap.size wr).alloc (Nat.le_refl _) _).mono (show w.heap.size ≤ wr.heap.size by omega)).trans (b3.mono (by omega)))); have K3 := (b3.block (w.heap.size + 1) (by omega)).trans ((heap_alloc_old _ _ (by omega)).trans H2.out); have K1 := (b3.block w.heap.size (by omega)).trans ((heap_alloc_old _ _ (by omega)).trans H1.out); obtain ⟨i20, i21, j20, j21⟩ := cells2_of K3; obtain ⟨⟨vp, vc, rfl⟩, -⟩ := R3.out.form; have z3 := b3.size; clear h3 b3 g3))
          go_roundw
          case rel => exact ⟨k, l + 1, _, vals ++ [.slice none 0 0], hk, by omega, fun _ => by have := hl2 hlt; omega, fun e => by omega, by have := hl2 hlt; have := plC_le k; omega, by go_num, Lib.hid (by rw [PS.out, HS0.out, EDS.out]; have z := R3.out; rw [List.length_append] at z; exact z.abv ((Abv.refl _ _).setCell (g := w.heap.size + 1) (by omega) 1 _) (by simp [World.setCell])), pair2_set K3 _, by rw [heap_setCell_other _ _ _ _ (by show w.heap.size ≠ w.heap.size + 1; omega)]; exact K1, HB3.out.setCell (p := ⟨w.heap.size + 1, 1, none⟩) (by show w.heap.size ≤ w.heap.size + 1; omega) _, by simp at z3 ⊢; omega⟩
          case measure => simp only [intOf]; omega
        · have hpf : isPw (l + 1) = false := by simpa using hp
          have hq : (bits .and .i64 ((l : Int) + 1) (l : Int) == 0) = false := by have := pw_bits ⟨l, by omega⟩; simp only at this; rw [Int.natCast_add] at this; rw [show ((l : Int) + 1) = (l : Int) + ((1 : Nat) : Int) from rfl, this, hpf]
          have heq : l + 1 = plC k := Classical.byContradiction fun e => hp (LF.1.2 e)
          have HS0 : Hid (sL (preF m l) = cbK ds.length m) := Lib.hid (by rw [HDL.out, preF_digit hpf (LF.2 heq)]; exact sL_bn k m hm)
          have CK := Lib.hid (CB.out ds.length (by have := HDL.out; omega))
          have hL : (cbK ds.length m).length ≤ 128 := by have := cbK_len ds.length m; omega
          have hpk := plC_le k
          have hf3 : k + 1 < F → lenC (k + 1) < plC (k + 1) := fun h => lenC_lt ⟨k + 1, by omega⟩
          have hf4 : k + 1 = F → l + 1 = lenC F := fun h => by rw [← h]; exact heq
          have hf5 : l + 1 = lenC (k + 1) := heq
          have HDA2 : Hid (ds ++ [(l : Int) + 1] = dgL (k + 1)) := Lib.hid (by rw [← HDA.out, ← heq]; rfl)
          have HH := Lib.hid (And.intro hf3 hf4)
          obtain ⟨L, eL⟩ : ∃ L, cbK ds.length m = L := ⟨_, rfl⟩
          rw [eL] at hL HS0 CK
          clear hp hpf LF LL heq eL HDA hf3 hf4
          go_upto_region 10 with (go_at_call 38; refine (FE _).out.mono ?_; rintro e w' ⟨rfl, rfl⟩)
          go_region_law (first
            | (go_simp; go_at_call 39; refine (CK.out _).mono ?_; rintro e w1 ⟨u1, rfl, o1, b1⟩; have B1 : Below wr.heap.size wr w1 := (Below.refl _ _).drew.trans b1; have z1 := B1.size; have D1 := HD.out.below B1 (Nat.le_refl _); have R1 := HD.out.rows.below B1 (Nat.le_refl _); have O1 : Ow w1 wr.heap.size u1 L := o1; have K2 := (B1.block (w.heap.size + 1) (by omega)).trans H2.out; obtain ⟨e20, e21, g20, g21⟩ := cells2_of K2; obtain ⟨up, uc, rfl, -⟩ := O1.sv; have K2A : (w1.alloc (.cells #[.slice up L.length uc] 22)).heap[w.heap.size + 1]? = _ := (heap_alloc_old _ _ (by omega)).trans K2; obtain ⟨r20, r21, -, -⟩ := cells2_of K2A; clear b1 o1)
            | (refine step_append_rowV rfl (.tmp 37) (.tmp 42) rfl (w.heap.size + 1 + 1) wr.heap.size (.slice sp pl.length sc) vals pl rfl (by exact R1.below ((Below.refl _ _).alloc (Nat.le_refl _) _) (Nat.le_refl _)) w1.heap.size (.slice up L.length uc) L rfl (by simp) ((O1.below ((Below.refl _ _).alloc (Nat.le_refl _) _) (Nat.le_refl _)).mono (by omega)) (fun k hk => by have := O1.own_lo k hk; omega) (by omega) (by simp; omega) ?_; intro v3 w3 h3 b3 g3; have R3 := Lib.hid ((D1.below ((Below.refl _ _).alloc (Nat.le_refl _) _) (Nat.le_refl _)).row h3 g3 (fun g hg hd => by have := O1.own_lo g hg; have := HD.out.dig.out_ltD g hd; omega)); have K3 := (b3.block (w.heap.size + 1) (by omega)).trans ((heap_alloc_old _ _ (by omega)).trans K2); obtain ⟨i20, i21, j20, j21⟩ := cells2_of K3; obtain ⟨⟨vp, vc, rfl⟩, -⟩ := R3.out.form))
          all_goals
            have z3 := b3.size
            have HB3 := Lib.hid ((nxt HB.out B1).trans ((((Below.refl _ w1).alloc (Nat.le_refl _) (.cells #[.slice up L.length uc] 22)).mono (show w.heap.size ≤ w1.heap.size by omega)).trans (b3.mono (by omega))))
            have H13 := Lib.hid ((b3.block w.heap.size (by omega)).trans ((heap_alloc_old _ _ (by omega)).trans ((B1.block w.heap.size (by omega)).trans H1.out)))
            have H23 := Lib.hid K3
            have z4 : w.heap.size + 1 + 1 ≤ w3.heap.size := by simp at z3; omega
            have R4 : Hid (Rd (w3.setCell ⟨w.heap.size + 1, 1, none⟩ (.slice vp (pl.length + 1) vc)) (w.heap.size + 1 + 1) (.slice vp (pl.length + 1) vc) (vals ++ [.slice up L.length uc]) (pl ++ [L]) (.slice dp ds.length dc) ds) := Lib.hid (by have z := R3.out; rw [List.length_append] at z; exact z.abv ((Abv.refl _ _).setCell (g := w.heap.size + 1) (by omega) 1 _) (by simp [World.setCell]))
            obtain ⟨W4, eW4⟩ : ∃ W4, w3.setCell ⟨w.heap.size + 1, 1, none⟩ (.slice vp (pl.length + 1) vc) = W4 := ⟨_, rfl⟩
            have zW4 : w.heap.size + 1 + 1 ≤ W4.heap.size := by rw [← eW4]; simp [World.setCell]; exact z4
            have K4 : W4.heap[w.heap.size + 1]? = some (.cells #[.int .i64 (m : Int), .slice vp (pl.length + 1) vc] 36 (0, 0)) := by rw [← eW4]; exact pair2_set H23.out _
            have J4 : W4.heap[w.heap.size]? = some (.cells #[.int .i64 0, .slice none 0 0] 36 (0, 0)) := by rw [← eW4, heap_setCell_other _ _ _ _ (by show w.heap.size ≠ w.heap.size + 1; omega)]; exact H13.out
            have HB4 : Below w.heap.size w W4 := by rw [← eW4]; exact HB3.out.setCell (p := ⟨w.heap.size + 1, 1, none⟩) (by show w.heap.size ≤ w.heap.size + 1; omega) _
            rw [eW4] at R4 ⊢
            clear eW4 b3 g3 h3 R3 K3 K2 K2A D1 R1 B1 O1 e20 e21 g20 g21 r20 r21 c20 c21 f20 f21 HD HB H1 H2 CK i20 i21 j20 j21 H13 H23 HB3
            have K4 := Lib.hid K4
            have J4 := Lib.hid J4
            have HB4 := Lib.hid HB4
            go_wp2_with (at_builtin; refine wpList_append_dig rfl _ _ rfl (w.heap.size + 1 + 1) _ _ _ _ ds rfl (R4.out.below ((Below.refl _ _).alloc (Nat.le_refl _) _) (Nat.le_refl _)) W4.heap.size ((l : Int) + 1) rfl (cell_new1 W4 _) (by have := HDL.out; omega) (by simp; omega) ?_; intro d5 w5 r5 b5; have R5 := Lib.hid r5; have K5 := (b5.block (w.heap.size + 1) (by omega)).trans ((heap_alloc_old _ _ (by omega)).trans K4.out); have J5 := (b5.block w.heap.size (by omega)).trans ((heap_alloc_old _ _ (by omega)).trans J4.out); have HB5 := Lib.hid (HB4.out.trans ((((Below.refl W4.heap.size W4).alloc (Nat.le_refl _) (.cells #[.int .i64 ((l : Int) + 1)] 3)).mono (show w.heap.size ≤ W4.heap.size by omega)).trans (b5.mono (by omega)))); have z5 := b5.size; clear r5 b5)
            first | go_roundw | (go_wp2; go_roundw)
            case rel => exact ⟨k + 1, l + 1, _, vals ++ [.slice up L.length uc], by omega, Nat.le_of_eq hf5.symm, fun h => by rw [hf5]; exact HH.out.1 h, HH.out.2, by omega, by go_num, Lib.hid (by rw [PS.out, HS0.out, ← HDA2.out]; exact R5.out), K5, J5, HB5.out, by simp at z5; omega⟩
            case measure => simp only [intOf]; omega
      · obtain rfl : k = F := by omega
        have hl := hl3 rfl
        subst hl
        have hnl : ((preL m (lenC k)).map sL).length = lenC k := by rw [List.length_map, preL_len]
        have hl0 : 0 < lenC k := lenC_pos L1
        obtain ⟨g, cap, ev, hgl, hrs⟩ := HD.out.rs (by omega)
        have hrs0 : Rs wr (w.heap.size + 1 + 1) g cap ((stL m k 1).map sL) := by rw [stL_one]; exact hrs
        simp only [Value.slice.injEq] at ev
        obtain ⟨rfl, -, rfl⟩ := ev
        have hgB := hrs.1
        rw [hnl] at c21
        have K2 : wr.heap[w.heap.size + 1]? = some (.cells #[.int .i64 (m : Int), .slice (some ⟨g, 0, none⟩) (lenC k) sc] 36 (0, 0)) := by rw [← hnl]; exact h2
        have hdl := dgL_len k
        have hdn : ¬ (((dgL k).length : Nat) : Int) < (k : Int) := by omega
        have hdn2 : decide ((dgL k).length < k) = false := by rw [decide_eq_false_iff_not]; omega
        have hda : ∀ i, i < k → (dgL k).getD i 0 = ((plC i : Nat) : Int) := fun i hi => dgL_at hi
        have HS0 := Lib.hid hrs0
        have HG0 := Lib.hid HD.out.dig
        obtain ⟨ds, eds⟩ : ∃ ds, dgL k = ds := ⟨_, rfl⟩
        rw [eds] at hda hdl hdn hdn2 HG0 ⊢
        have HDA := Lib.hid hda
        have HDL := Lib.hid hdl
        have hlc := lenC_le k
        have NLk := Lib.hid (fun p => CKE.out p)
        obtain ⟨nl, enl⟩ : ∃ nl, lenC k = nl := ⟨_, rfl⟩
        have ENL := Lib.hid enl
        rw [enl] at K2 c21 hl0 hlc
        clear eds hda hdl hrs hrs0 h2 HD hnl hl1 hl2 hl3 hl4 hw1 enl H2 CKE
        go_wp2_with (go_at_call 38; refine (FE _).out.mono ?_; rintro e w' ⟨rfl, rfl⟩)
        have HBo := Lib.hid HB.out
        go_loopw [7] (fun q wr => ∃ (p Q : Nat), p ≤ 4 ∧ Hid (Q + 1 = 2 ^ p) ∧ Q ≤ 15 ∧ q = .int .i64 ((Q : Int) + 1) ∧ Hid (Rs wr (w.heap.size + 1 + 1) g sc ((stL m k (Q + 1)).map sL)) ∧ Hid (Ow wr (w.heap.size + 1 + 1) (.slice dp ds.length dc) ds) ∧ wr.heap[w.heap.size + 1]? = some (.cells #[.int .i64 (m : Int), .slice (some ⟨g, 0, none⟩) nl sc] 36 (0, 0)) ∧ wr.heap[w.heap.size]? = some (.cells #[.int .i64 0, .slice none 0 0] 36 (0, 0)) ∧ Below w.heap.size w wr ∧ g < wr.heap.size ∧ w.heap.size + 1 + 1 ≤ wr.heap.size) (fun q _ => 40 - (intOf q).toNat)
        case atStart => exact ⟨0, 0, by omega, Lib.hid rfl, by omega, by go_num, HS0, HG0, K2, H1.out, HBo.out, hgl, zW⟩
        case round =>
          clear HS0 HG0 K2 H1 HBo hgl zW HB c20 c21 f20 f21 hdn
          obtain ⟨p, Q, hp4, HP, hQ, rfl, HS, HG, hC, hR, hb, hgl, hz⟩ := hrel
          obtain ⟨c20, c21, f20, f21⟩ := cells2_of hC
          have HSL : Hid (((stL m k (Q + 1)).map sL).length = nl) := Lib.hid (by rw [List.length_map, stL_len, ENL.out])
          by_cases hle : Q < nl
          · have hp : p < 4 := by
              have e := HP.out
              rcases (by omega : p < 4 ∨ p = 4) with h | h
              · exact h
              · subst h
                have : (2 : Nat) ^ 4 = 16 := rfl
                omega
            have hleI : (Q : Int) + 1 ≤ (nl : Int) := by omega
            have hHC := Lib.hid hC
            have hHR := Lib.hid hR
            obtain ⟨wv, ewv⟩ : ∃ wv, wv = wr := ⟨_, rfl⟩
            subst ewv
            have hds0 : 0 < ds.length := by have := HDL.out; omega
            obtain ⟨p0, cap0, ep0, hx0⟩ := HG.out.sv
            obtain ⟨bd, od, ebd, hbd, hcd⟩ := hx0 hds0
            simp only [Value.slice.injEq] at ep0
            obtain ⟨rfl, -, rfl⟩ := ep0
            subst ebd
            have HCD := Lib.hid hcd
            have HBD := Lib.hid hbd
            have HBv := Lib.hid hb
            clear hcd hbd hx0 hC hR hb hds0
            go_wp2_with fail
            clear c20 c21 f20 f21
            go_loopw [8, 9] (fun ls x wq => ∃ y : Nat, y ≤ m ∧ x = .int .i64 (y : Int) ∧ Hid (Ow wq wv.heap.size ls (sLK (xorM m (Q + 1) k) y)) ∧ Hid (Below wv.heap.size wv wq)) (fun _ x _ => m - (intOf x).toNat)
            case atStart => exact ⟨0, Nat.zero_le _, rfl, Lib.hid (World.ownsRow_nil _ _ _ _), Lib.hid (Below.refl _ _)⟩
            case round =>
              obtain ⟨y, hy, rfl, HL, hq⟩ := hrel
              obtain ⟨lp, lc, elp, -⟩ := HL.out.sv
              subst elp
              have hzq := hq.out.size
              have hCq := (hq.out.block (w.heap.size + 1) (by omega)).trans hHC.out
              obtain ⟨d20, d21, e20, e21⟩ := cells2_of hCq
              by_cases hym : y < m
              · have hymI : (y : Int) < (m : Int) := by omega
                obtain ⟨T, eT⟩ : ∃ T, sLK (xorM m (Q + 1) k) y = T := ⟨_, rfl⟩
                have ET := Lib.hid eT
                rw [eT] at HL ⊢
                have hTl : T.length ≤ 128 := by rw [← eT]; have := sLK_len (xorM m (Q + 1) k) y; omega
                obtain ⟨wx, ewx⟩ : ∃ wx, wx = wr := ⟨_, rfl⟩
                subst ewx
                clear eT hCq
                go_wp2_with fail
                go_loopw [10, 63] (fun b j wz => ∃ i : Nat, i ≤ k ∧ j = .int .i64 (i : Int) ∧ b = .bool (xorM m (Q + 1) i (y : Int)) ∧ wz = wx) (fun _ j _ => k - (intOf j).toNat)
                case atStart => exact ⟨0, Nat.zero_le _, rfl, rfl, rfl⟩
                case round =>
                  obtain ⟨i, hi, rfl, rfl, ewz⟩ := hrel
                  subst ewz
                  by_cases hik : i < k
                  · have PF := plC_facts ⟨i, by omega⟩
                    have PI := plC_in ⟨i, by omega⟩ ⟨k, by omega⟩ hik
                    have PB := pl_bits ⟨i, by omega⟩ ⟨p, hp⟩
                    have SD := st_digit m k (Q + 1) (k := i) (by omega)
                    simp only at PF PI PB
                    rw [← HP.out] at PB
                    rw [ENL.out] at PI
                    have hcell := (hq.out.cell (p := ⟨bd, od + i, none⟩) HBD.out).trans (HCD.out i (by have := HDL.out; omega))
                    rw [HDA.out i hik] at hcell
                    obtain ⟨c, ec⟩ : ∃ c, plC i = c + 1 := ⟨plC i - 1, by omega⟩
                    have HXS := Lib.hid (xorM_step m (Q + 1) i (y : Int))
                    rw [ec] at hcell PI PB SD HXS
                    simp only [Nat.add_sub_cancel] at SD
                    rw [Int.natCast_add] at hcell PB
                    rw [Int.natCast_add] at PB
                    have hc1 : IntKind.i64.wrap ((c : Int) + 1 - 1) = (c : Int) := by rw [show ((c : Int) + 1 - 1) = (c : Int) by omega]; exact IntWalk.i64_in _ (by omega)
                    have hcn : (c : Int) < (nl : Int) := by omega
                    have hil : (i : Int) < ((ds.length : Nat) : Int) := by have := HDL.out; omega
                    obtain ⟨bb, ebb⟩ : ∃ bb, xorM m (Q + 1) i (y : Int) = bb := ⟨_, rfl⟩
                    rw [ebb] at HXS ⊢
                    have hbx : (bits .and .i64 ((c : Int) + 1) ((Q : Int) + 1) == 0) = decide ((c + 1) &&& (Q + 1) = 0) := PB
                    clear ebb PB PF ec
                    by_cases hA : (c + 1) &&& (Q + 1) = 0
                    · have hbt : (bits .and .i64 ((c : Int) + 1) ((Q : Int) + 1) != 0) = false := by show (!(_ == _)) = false; rw [hbx, decide_eq_true hA]; rfl
                      have HX := Lib.hid (show xorM m (Q + 1) (i + 1) (y : Int) = bb by rw [HXS.out, if_pos hA])
                      clear hA HXS SD hbx
                      go_wp2_with fail
                      go_roundw
                      case rel => first | exact ⟨i + 1, by omega, by go_num, by rw [HX.out], by first | trivial | rfl⟩ | ((repeat apply Exists.intro); exact ⟨⟨i + 1, by omega, by go_num, by rw [HX.out], by first | trivial | rfl⟩, rfl⟩)
                      case measure => simp only [intOf]; omega
                    · have hbt : (bits .and .i64 ((c : Int) + 1) ((Q : Int) + 1) != 0) = true := by show (!(_ == _)) = true; rw [hbx, decide_eq_false hA]; rfl
                      obtain ⟨u, hu, -, ho⟩ := HS.out.cell (j := c) (by rw [HSL.out]; omega)
                      have er : rowL ((stL m k (Q + 1)).map sL) c = sL (bnP i m) := by
                        unfold rowL
                        rw [List.getD_eq_getElem?_getD, List.getElem?_map, stL_at m k (Q + 1) (show c < lenC k by rw [ENL.out]; omega), SD]; rfl
                      rw [er] at ho
                      have hlen : (sL (bnP i m)).length ≤ 128 := sLK_len _ 128
                      have huq := (hq.out.cell (p := ⟨g, c, none⟩) hgl).trans hu
                      have LH0 := fun W (h : Below wv.heap.size wv W) => l1Has_any u (sL (bnP i m)) (y : Int) W (ho.sv.below h (Nat.le_refl _)) (by omega)
                      rw [has_bn (by omega) (by omega)] at LH0
                      obtain ⟨up, uc, eu, -⟩ := ho.sv
                      obtain ⟨t, et⟩ : ∃ t, bnP i m (y : Int) = t := ⟨_, rfl⟩
                      rw [et] at LH0 HXS
                      have LH := Lib.hid (LH0 _ hq.out)
                      subst eu
                      generalize (sL (bnP i m)).length = ln at *
                      cases t with
                      | true =>
                        have HX := Lib.hid (show xorM m (Q + 1) (i + 1) (y : Int) = !bb by rw [HXS.out, if_neg hA]; cases bb <;> rfl)
                        clear hA HXS SD hbx ho er LH0 hu et
                        go_wp2_with (go_at_call 40; refine LH.out.mono ?_; rintro e w3 ⟨rfl, rfl⟩)
                        go_roundw
                        case rel => first | exact ⟨i + 1, by omega, by go_num, by rw [HX.out], by first | trivial | rfl⟩ | ((repeat apply Exists.intro); exact ⟨⟨i + 1, by omega, by go_num, by rw [HX.out], by first | trivial | rfl⟩, rfl⟩)
                        case measure => simp only [intOf]; omega
                      | false =>
                        have HX := Lib.hid (show xorM m (Q + 1) (i + 1) (y : Int) = bb by rw [HXS.out, if_neg hA]; cases bb <;> rfl)
                        clear hA HXS SD hbx ho er LH0 hu et
                        go_wp2_with (go_at_call 40; refine LH.out.mono ?_; rintro e w3 ⟨rfl, rfl⟩)
                        go_roundw
                        case rel => first | exact ⟨i + 1, by omega, by go_num, by rw [HX.out], by first | trivial | rfl⟩ | ((repeat apply Exists.intro); exact ⟨⟨i + 1, by omega, by go_num, by rw [HX.out], by first | trivial | rfl⟩, rfl⟩)
                        case measure => simp only [intOf]; omega
                  · obtain rfl : i = k := by omega
                    have hin : ¬ (i : Int) < ((ds.length : Nat) : Int) := by have := HDL.out; omega
                    cases hxx : xorM m (Q + 1) i (y : Int) with
                    | true =>
                      have HN := Lib.hid (show sLK (xorM m (Q + 1) i) (y + 1) = T ++ [(y : Int)] by rw [sLK_yes hxx, ET.out])
                      clear hxx
                      go_wp2_with (at_builtin; refine wpList_append_src rfl _ _ rfl wv.heap.size _ T rfl (HL.out.below ((Below.refl _ _).alloc (Nat.le_refl _) _) (Nat.le_refl _)) _ [(y : Int)] rfl (src_one _ _) (by simp; omega) (by simp; omega) ?_; intro v8 w8 o8 g8; have B8 := Lib.hid ((hq.out.trans (((Below.refl wr.heap.size wr).alloc (Nat.le_refl _) _).mono hzq)).trans ((Below.refl wv.heap.size (wr.alloc (.cells #[.int .i64 (y : Int)] 3))).grown g8 (by simp; omega) (fun k hk => (World.ownsRow.lt HL.out k hk).1))); have O8 := Lib.hid o8; clear o8 g8)
                      go_roundw
                      case rel => first | exact ⟨y + 1, by omega, by go_num, Lib.hid (by rw [HN.out]; exact O8.out), B8⟩ | exact ⟨y + 1, by omega, by go_num, Lib.hid (by rw [HN.out]; exact O8.out)⟩
                      case measure => simp only [intOf]; omega
                    | false =>
                      have HN := Lib.hid (show sLK (xorM m (Q + 1) i) (y + 1) = T by rw [sLK_no hxx, ET.out])
                      clear hxx
                      go_wp2_with fail
                      go_roundw
                      case rel => exact ⟨y + 1, by omega, by go_num, Lib.hid (by rw [HN.out]; exact HL.out), hq⟩
                      case measure => simp only [intOf]; omega
              · obtain rfl : y = m := by omega
                have hLL := ck_list y k p L1 L7 hp hm
                rw [← HP.out] at hLL
                have HSn := Lib.hid (show ((stL y k (Q + 1)).map sL).set Q (sLK (xorM y (Q + 1) k) y) = (stL y k (2 * (Q + 1))).map sL by
                  have z := st_next y k hp
                  rw [← HP.out, Nat.pow_succ, ← HP.out] at z
                  rw [← hLL, ← List.map_set, show 2 * (Q + 1) = (Q + 1) * 2 by omega, ← z]; rfl)
                obtain ⟨T, eT⟩ : ∃ T, sLK (xorM y (Q + 1) k) y = T := ⟨_, rfl⟩
                rw [eT] at HL HSn ⊢
                have hRq := (hq.out.block w.heap.size (by omega)).trans hHR.out
                have HSq := Lib.hid (HS.out.below hq.out (Nat.le_refl _))
                obtain ⟨old, hold, hfr, -⟩ := HSq.out.cell (j := Q) (by rw [HSL.out]; exact hle)
                have hq1 : IntKind.i64.wrap ((Q : Int) + 1 - 1) = (Q : Int) := by rw [show ((Q : Int) + 1 - 1) = (Q : Int) by omega]; exact IntWalk.i64_in _ (by omega)
                have hqn : (Q : Int) < (nl : Int) := by omega
                have SW := Lib.hid (HSq.out.set (k := Q) (by rw [HSL.out]; exact hle) HL.out (by omega))
                obtain ⟨-, -, curq, h3q, -⟩ := id HSq.out
                have GW := Lib.hid ((HG.out.below hq.out (Nat.le_refl _)).setOut h3q Q (.slice lp T.length lc))
                have HP2 := Lib.hid (show (2 * Q + 1) + 1 = 2 ^ (p + 1) by rw [Nat.pow_succ, ← HP.out]; omega)
                have HBq := Lib.hid (HBv.out.trans (hq.out.mono (by omega)))
                have hRq := Lib.hid hRq
                have hCq := Lib.hid hCq
                have hQ7 : 2 * Q + 1 ≤ 15 := by
                  have e := HP.out
                  rcases (by omega : p = 0 ∨ p = 1 ∨ p = 2 ∨ p = 3) with h | h | h | h <;> subst h <;> simp at e <;> omega
                clear eT hLL hq
                go_wp2_with fail
                go_roundw
                case rel => exact ⟨p + 1, 2 * Q + 1, by omega, HP2, hQ7, by go_num, Lib.hid (by rw [show 2 * Q + 1 + 1 = 2 * (Q + 1) by omega, ← HSn.out]; exact SW.out), GW, by rw [heap_setCell_other _ _ _ _ (by show w.heap.size + 1 ≠ g; omega)]; exact hCq.out, by rw [heap_setCell_other _ _ _ _ (by show w.heap.size ≠ g; omega)]; exact hRq.out, HBq.out.setCell (p := ⟨g, Q, none⟩) (by show w.heap.size ≤ g; omega) _, by simp [World.setCell]; omega, by simp [World.setCell]; omega⟩
                case measure => simp only [intOf]; omega
          · have hlt : ¬ (Q : Int) + 1 ≤ (nl : Int) := by omega
            have EE := Lib.hid (NLk.out p (by rw [ENL.out, ← HP.out]; omega))
            obtain ⟨c10, c11, f10, f11⟩ := cells2_of hR
            have HBv := Lib.hid hb
            clear hb hC hR HG
            go_wp2_with fail
            obtain ⟨fs, hfs⟩ := Try.cardsU
            refine bodyPost_ret (v := .tuple #[.agg #[.int .i64 (m : Int), .slice (some ⟨g, 0, none⟩) nl sc], .bool true]) (results_twob rfl _ _ w.heap.size _ _ fs rfl ?_ ?_ hfs Try.cardsI _ rfl) rfl ⟨_, rfl, ?_, (HBv.out.setCell (p := ⟨w.heap.size, 0, none⟩) (Nat.le_refl _) _).setCell (p := ⟨w.heap.size, 1, none⟩) (Nat.le_refl _) _⟩
            · simp [World.cell?_setCell_other, World.cell?_setCell_same, go_sem, c10]
            · simp [World.cell?_setCell_other, World.cell?_setCell_same, go_sem, c11]
            · have z := (HS.out.abv (((Abv.refl (w.heap.size + 1 + 1) wr).setCell (g := w.heap.size) (by omega) 0 (.int .i64 (m : Int))).setCell (g := w.heap.size) (by omega) 1 (.slice (some ⟨g, 0, none⟩) nl sc))).svv
              rw [HSL.out] at z
              rw [← EE.out, ← HP.out]
              exact z
end Go.Proofs.Ytgojlabkngnkdaa
