/-
  FewestBoth in the model, by contract. Condition: slices of at most 2^40 numbers.
-/
import Derived.Test.YtcgifmoddojnmaaZgs
namespace Go.Proofs.Ytcgifmoddojnmaa
open Go.RowKit

/-- The model's entry in the middle: how far the two ways to come to it are looked at. -/
def hmP (M : Int) (l : List Int) (m v : Int) : Nat → Int
  | 0 => Hm M l v
  | 1 => min (Hm M l v) (min M (Hm M l (v - m) + 1))
  | _ => min (min (Hm M l v) (min M (Hm M l (v - m) + 1))) (min M (Hm M l (v + m) + 1))
/-- The new row: up to q done, the entry q in the middle, behind it still the old ones. -/
def hmF (M : Int) (l : List Int) (m T : Int) (q i j : Nat) : Int := if j < q then hmP M l m ((j : Int) - T) 2 else if j = q then hmP M l m ((j : Int) - T) i else Hm M l ((j : Int) - T)
def HmRow (M : Int) (l : List Int) (m T : Int) (n q i : Nat) (ns : List Int) : Prop := ns.length = n ∧ ∀ j, j < n → ns.getD j 0 = hmF M l m T q i j
theorem getD_set (ns : List Int) (q j : Nat) (x : Int) (hq : q < ns.length) : (ns.set q x).getD j 0 = if j = q then x else ns.getD j 0 := by
  simp only [List.getD_eq_getElem?_getD, List.getElem?_set]
  by_cases e : j = q
  · subst e; simp [hq]
  · rw [if_neg e, if_neg (fun h => e h.symm)]
theorem HmRow.set {M : Int} {l : List Int} {m T : Int} {n q i : Nat} {ns : List Int} (h : HmRow M l m T n q i ns) (hq : q < n) {x : Int} (hx : x = hmP M l m ((q : Int) - T) (i + 1)) : HmRow M l m T n q (i + 1) (ns.set q x) := by
  refine ⟨by rw [List.length_set]; exact h.1, fun j hj => ?_⟩
  rw [getD_set _ _ _ _ (by rw [h.1]; exact hq)]
  by_cases e : j = q
  · subst e
    rw [if_pos rfl]
    unfold hmF
    rw [if_neg (by omega), if_pos rfl, hx]
  · rw [if_neg e, h.2 j hj]
    unfold hmF
    rw [if_neg e, if_neg e]
theorem HmRow.same {M : Int} {l : List Int} {m T : Int} {n q i i' : Nat} {ns : List Int} (h : HmRow M l m T n q i ns) (hx : hmP M l m ((q : Int) - T) i = hmP M l m ((q : Int) - T) i') : HmRow M l m T n q i' ns := by
  refine ⟨h.1, fun j hj => ?_⟩
  rw [h.2 j hj]
  unfold hmF
  by_cases e : j = q
  · subst e; rw [if_neg (by omega), if_pos rfl, if_neg (by omega), if_pos rfl, hx]
  · rw [if_neg e, if_neg e]
theorem HmRow.step {M : Int} {l : List Int} {m T : Int} {n q : Nat} {ns : List Int} (h : HmRow M l m T n q 2 ns) : HmRow M l m T n (q + 1) 0 ns := by
  refine ⟨h.1, fun j hj => ?_⟩
  rw [h.2 j hj]
  unfold hmF
  by_cases h1 : j < q
  · rw [if_pos h1, if_pos (by omega)]
  · rw [if_neg h1]
    by_cases e : j = q
    · rw [if_pos e, if_pos (by omega)]
    · rw [if_neg e, if_neg (by omega)]
      by_cases e2 : j = q + 1
      · rw [if_pos e2]; rfl
      · rw [if_neg e2]
/-- All entries of the prefix k. -/
def hmList (M : Int) (xs : List Int) (T k : Nat) : List Int := (List.range (2 * T + 1)).map fun (j : Nat) => Hm M (xs.take k) ((j : Int) - T)
theorem hmList_len (M : Int) (xs : List Int) (T k : Nat) : (hmList M xs T k).length = 2 * T + 1 := by simp [hmList]
theorem hmList_at (M : Int) (xs : List Int) (T k : Nat) {j : Nat} (h : j < 2 * T + 1) : (hmList M xs T k).getD j 0 = Hm M (xs.take k) ((j : Int) - T) := by simp [hmList, List.getD, h]
theorem hmRow_list {M : Int} {l : List Int} {m T : Int} {n : Nat} {ns zs : List Int} (h : HmRow M l m T n n 0 ns) (hz : zs.length = n) (he : ∀ j, j < n → zs.getD j 0 = hmP M l m ((j : Int) - T) 2) : ns = zs := by
  apply List.ext_getElem?
  intro j
  by_cases hj : j < n
  · have h1 := h.2 j hj
    have h2 := he j hj
    unfold hmF at h1
    rw [if_pos hj, ← h2] at h1
    rw [List.getD_eq_getElem?_getD, List.getD_eq_getElem?_getD, List.getElem?_eq_getElem (by rw [h.1]; exact hj), List.getElem?_eq_getElem (by rw [hz]; exact hj)] at h1
    rw [List.getElem?_eq_getElem (by rw [h.1]; exact hj), List.getElem?_eq_getElem (by rw [hz]; exact hj)]
    simpa using h1
  · rw [List.getElem?_eq_none (by rw [h.1]; omega), List.getElem?_eq_none (by rw [hz]; omega)]
theorem few_no {xs : List Int} {s : Int} (h : askV xs s = false) : fewV xs s = false ∧ vdB xs s = 0 := ⟨by simp [fewV, h], (vd_no h).2.1⟩
theorem few_none {xs : List Int} {s : Int} (ha : askV xs s = true) (h : Sy xs s = 0) : fewV xs s = false ∧ vdB xs s = 0 :=
  ⟨by simp [fewV, (vd_yes ha).1, h], by rw [(vd_yes ha).2.1]; exact Fs_zero xs s h⟩
theorem few_yes {xs : List Int} {s : Int} (ha : askV xs s = true) (h : ¬ Sy xs s = 0) : fewV xs s = true ∧ vdB xs s = Fs xs s := ⟨by simp [fewV, ha, (vd_yes ha).1, h], (vd_yes ha).2.1⟩
theorem src_sp {w : World} {B : Nat} {v : Value} {ys : List Int} (h : Ow w B v ys) (h0 : 0 < ys.length) : Src w v ys := by
  obtain ⟨g, cap, rfl, h1, h2, h3, h4⟩ := h.full h0
  exact .inr ⟨g, 0, cap, rfl, h3, fun j hj => by rw [Nat.zero_add]; exact h4 j hj⟩

set_option maxHeartbeats 16000000 in
set_option maxRecDepth 100000 in
theorem specFewestBoth_any (v : Value) (xs : List Int) (s : Int) (w : World) (hsp : Sp w v xs) (hl : xs.length ≤ 1099511627776) :
    Calls Try.prog 27 #[v, .int .i64 s] w fun e w' => e = .returned (.tuple #[.int .i64 (vdB xs s), .bool (fewV xs s)]) ∧ Below w.heap.size w w' := by
  have h := hsp.sv
  clear hsp
  by_cases ha : askV xs s = true
  · have hg2 := askV_iff.1 ha
    have hg := (sideB_iff.1 hg2.1).1
    have hl12 := (sideB_iff.1 hg2.1).2
    obtain ⟨hs0, hs1⟩ := inB_iff.1 hg2.2
    by_cases hz : Sy xs s = 0
    · have R := Lib.hid (few_none ha hz)
      have HZ := Lib.hid hz
      clear hz hg2
      go_enter Try.func27, Try.ntmps27
      go_wp2_with fail
      refine (siAsked_any _ _ _ _ h hl).mono ?_
      rintro e w1 ⟨rfl, b1⟩
      go_wp2_with fail
      refine (siMake_any _ _ _ _ (h.below b1 (Nat.le_refl _)) hg (by omega) (by omega)).mono ?_
      rintro e w2 ⟨rfl, b2⟩
      rw [HZ.out]
      go_wp2_with fail
      go_ret2
      exact ⟨ret_ib R.out.2.symm R.out.1.symm, nxt b1 b2⟩
    · have R := Lib.hid (few_yes ha hz)
      have hs := h
      obtain ⟨p, cap, rfl, hx⟩ := h
      have HX := Lib.hid hx
      clear hx
      have d : (Sy xs s == 0) = false := by simpa using hz
      have hin := Sy_in hg.mem hz
      obtain ⟨M, eM⟩ : ∃ M : Int, (xs.length : Int) + 1 = M := ⟨_, rfl⟩
      have hM0 : 0 ≤ M := by omega
      have hM1 : M ≤ 13 := by omega
      have GY := Lib.hid (Hm_yes (M := M) xs s (by omega) hz)
      have HNO := Lib.hid (fun l s => Hm_no (M := M) hM0 l s)
      have HLE := Lib.hid (fun l s => Hm_le (M := M) hM0 l s)
      have HMM := Lib.hid hg.mem
      obtain ⟨htop, htop2⟩ := hg.top
      have hsum : sumFrom 0 xs = top xs := by unfold sumP at htop; omega
      have HSM := Lib.hid hsum
      obtain ⟨T, eT⟩ : ∃ T, top xs = T := ⟨_, rfl⟩
      rw [eT] at htop htop2 hsum HSM
      rw [hsum] at hin
      obtain ⟨hin0, hin1⟩ := hin
      have ec : ((2 * T + 1 : Nat) : Int) = 2 * (T : Int) + 1 := by omega
      have hmk := run_make_row' (P := Try.prog) 22 3 (.int .i64 0) 8 Try.underlying22 Try.infoI rfl .i64 .i64 (2 * T + 1) (by omega) (by omega)
      rw [ec] at hmk
      have HS := Lib.hid htop
      have wM : IntKind.i64.wrap ((xs.length : Int) + 1) = M := by rw [eM]; exact IntWalk.i64_in _ (by omega)
      clear hz hg2 eM eT htop ec hsum
      go_enter Try.func27, Try.ntmps27
      go_wp2_with fail
      refine (siAsked_any _ _ _ _ hs hl).mono ?_
      rintro e w1 ⟨rfl, b1⟩
      go_wp2_with fail
      refine (siMake_any _ _ _ _ (hs.below b1 (Nat.le_refl _)) hg (by omega) (by omega)).mono ?_
      rintro e w2 ⟨rfl, b2⟩
      have b2 := nxt b1 b2
      clear b1
      go_wp2_with fail
      refine (piSum_any _ _ _ (hs.below b2 (Nat.le_refl _)) hg).mono ?_
      rintro e w2' ⟨rfl, rfl⟩
      rw [← HS.out]
      have z2 := b2.size
      go_wp2
      go_loopw [33] (fun i wr => ∃ k : Nat, k ≤ 2 * T + 1 ∧ i = .int .i64 k ∧ wr.rowIs w2.heap.size 3 (2 * T + 1) (fun j => .int .i64 (if j < k then M else 0)) ∧ Below w2.heap.size w2 wr) (fun i _ => 2 * T + 1 - (intOf i).toNat)
      case atStart => exact ⟨0, by omega, rfl, (World.rowIs_made w2 _ _ _).congr (fun j _ => by simp), (Below.refl _ _).alloc (Nat.le_refl _) _⟩
      case round =>
        obtain ⟨k, hk, rfl, hrow, hb⟩ := hrel
        clear hmk
        by_cases hlt : k < 2 * T + 1
        · have hold : wr.cell? ⟨w2.heap.size, k, none⟩ = some (.int .i64 (if k < k then M else 0)) := hrow.cell hlt
          have hfr := hrow.frozen k
          have hki : (k : Int) < 2 * (T : Int) + 1 := by omega
          go_wp2
          go_roundw
          case rel =>
            refine ⟨k + 1, by omega, by go_num, (hrow.set k _).congr (fun j hj => ?_), hb.setCell (Nat.le_refl _) _⟩
            by_cases e : j = k
            · subst e; simp
            · rw [if_neg e]
              by_cases h2 : j < k
              · rw [if_pos h2, if_pos (by omega)]
              · rw [if_neg h2, if_neg (by omega)]
          case measure => simp [intOf]; omega
        · have hkT : k = 2 * T + 1 := by omega
          subst hkT
          have hold := hrow.cell (i := T) (by omega)
          have hfr := hrow.frozen T
          rw [if_pos (by omega)] at hold
          have hTi : (T : Int) < 2 * (T : Int) + 1 := by omega
          have hTn : (0 : Int) ≤ (T : Int) := by omega
          obtain ⟨wa, rfl⟩ : ∃ wa : World, wa = wr := ⟨_, rfl⟩
          have OW0 : Ow (wa.setCell ⟨w2.heap.size, T, none⟩ (.int .i64 0)) w.heap.size (.slice (some ⟨w2.heap.size, 0, none⟩) (2 * T + 1) (2 * T + 1)) (hmList M xs T 0) := by
            refine (ow_of_row (hrow.set T _) (hmList_len _ _ _ _) (by unfold maxLen; omega) (fun j hj => ?_)).mono z2
            rw [hmList_at _ _ _ _ hj]
            by_cases e : j = T
            · subst e; simp [Hm]
            · have e2 : ¬ ((j : Int) - T = 0) := by omega
              rw [if_neg e, if_pos hj]
              simp [Hm, e2]
          have HB0 := (b2.trans (hb.mono z2)).setCell (p := ⟨w2.heap.size, T, none⟩) z2 (.int .i64 0)
          clear hrow hb
          go_wp2
          go_loopw [7, 48] (fun a i wr => ∃ k : Nat, k ≤ xs.length ∧ i = .int .i64 k ∧ Ow wr w.heap.size a (hmList M xs T k) ∧ Below w.heap.size w wr) (fun _ i _ => xs.length - (intOf i).toNat)
          case atStart => exact ⟨0, Nat.zero_le _, rfl, OW0, HB0⟩
          case round =>
            clear OW0 HB0 hold hfr
            obtain ⟨k, hk, rfl, ho, hb⟩ := hrel
            obtain ⟨wo, rfl⟩ : ∃ wo : World, wo = wr := ⟨_, rfl⟩
            have hz0 := hb.size
            by_cases hlt : k < xs.length
            · obtain ⟨b, off, rfl, hbl, hc⟩ := HX.out (by omega)
              have hcell := (hb.cell (p := ⟨b, off + k, none⟩) hbl).trans (hc k hlt)
              obtain ⟨x, ex⟩ : ∃ x, xs.getD k 0 = x := ⟨_, rfl⟩
              obtain ⟨hx1, hx2⟩ := hg.bd hlt ex
              obtain ⟨m, rfl⟩ : ∃ m : Nat, x = (m : Int) := ⟨x.toNat, by omega⟩
              rw [ex] at hcell
              have HTK := fun v => Lib.hid (Hm_take (M := M) hlt ex v)
              have hll := hmList_len M xs T k
              have HAT := Lib.hid (fun j (hj : j < 2 * T + 1) => hmList_at M xs T k hj)
              have HOUT : Hid (∀ v : Int, v < -(T : Int) ∨ (T : Int) < v → Hm M (xs.take k) v = M) := Lib.hid (fun v hv => HNO.out _ _ (by
                have hst := sum_take xs HMM.out k
                rw [HSM.out] at hst
                rcases hv with hv | hv
                · exact Sy_small _ _ (fun y hy => HMM.out y (List.mem_of_mem_take hy)) (by omega)
                · exact Sy_big _ _ (fun y hy => HMM.out y (List.mem_of_mem_take hy)) (by omega)))
              have HLB := Lib.hid (fun v => HLE.out (xs.take k) v)
              obtain ⟨L, eL⟩ : ∃ L, hmList M xs T k = L := ⟨_, rfl⟩
              rw [eL] at ho hll HAT
              obtain ⟨l, el⟩ : ∃ l, xs.take k = l := ⟨_, rfl⟩
              rw [el] at HTK HAT HOUT HLB
              clear ex hc eL el
              have hsrc := src_sp ho (by omega)
              obtain ⟨gf, cf, rfl, hcf1, hcf2, hgf, hcf⟩ := ho.full (by omega)
              rw [hll] at hcf1 hcf hsrc ⊢
              have HCF := Lib.hid hcf
              go_wp2_with fail
              refine (l1Own_any _ L _ hsrc (by omega)).mono ?_
              rintro e w3 ⟨un, rfl, on, b3⟩
              obtain ⟨gn, cn, rfl, hcn1, hcn2, hgn, -⟩ := on.full (by omega)
              have hgnB : wo.heap.size ≤ gn := (World.ownsRow.lt on gn rfl).1
              rw [hll] at hcn1 on ⊢
              have on : Ow w3 wo.heap.size (.slice (some ⟨gn, 0, none⟩) (2 * T + 1) cn) L := on
              obtain ⟨N, hN⟩ : ∃ N, wo.heap.size = N := ⟨_, rfl⟩
              rw [hN] at on b3 hgnB hgf hz0
              clear hcf ho hsrc hcell hcf1 hcn1 hcf2 hcn2
              go_wp2
              go_loopw [56] (fun i wm => ∃ (q : Nat) (ns : List Int), q ≤ 2 * T + 1 ∧ i = .int .i64 q ∧ Ow wm N (.slice (some ⟨gn, 0, none⟩) (2 * T + 1) cn) ns ∧ HmRow M l m T (2 * T + 1) q 0 ns ∧ Below N wo wm) (fun i _ => 2 * T + 1 - (intOf i).toNat)
              case atStart =>
                refine ⟨0, L, Nat.zero_le _, rfl, on, ⟨hll, fun j hj => ?_⟩, b3⟩
                rw [HAT.out j hj]
                unfold hmF
                rw [if_neg (by omega)]
                by_cases e : j = 0
                · rw [if_pos e]; rfl
                · rw [if_neg e]
              case round =>
                clear on b3
                obtain ⟨q, ns, hq, rfl, on, hR, hbm⟩ := hrel
                obtain ⟨wm, rfl⟩ : ∃ wm : World, wm = wr := ⟨_, rfl⟩
                by_cases hq2 : q < 2 * T + 1
                · have hqi : (q : Int) < 2 * (T : Int) + 1 := by omega
                  have w4 : IntKind.i64.wrap ((q : Int) - m) = (q : Int) - m := IntWalk.i64_in _ (by omega)
                  have w5 : IntKind.i64.wrap ((q : Int) + m) = (q : Int) + m := IntWalk.i64_in _ (by omega)
                  have hgm : gn < wm.heap.size := (World.ownsRow.lt on gn rfl).2
                  have hNm := hbm.size
                  rw [hN] at hNm
                  go_wp2
                  obtain ⟨D, hD⟩ : ∃ D, wm.heap.size = D := ⟨_, rfl⟩
                  have ond : Ow (wm.alloc (.cells #[.int .i64 ((q : Int) - m), .int .i64 ((q : Int) + m)] 3)) N (.slice (some ⟨gn, 0, none⟩) (2 * T + 1) cn) ns := on.alloc _
                  have bd := hbm.alloc (by rw [hD] at hNm ⊢; exact hNm) (.cells #[.int .i64 ((q : Int) - m), .int .i64 ((q : Int) + m)] 3)
                  have kd := heap_alloc_new wm (.cells #[.int .i64 ((q : Int) - m), .int .i64 ((q : Int) + m)] 3)
                  rw [hD] at kd hgm hNm ⊢
                  obtain ⟨WD, eWD⟩ : ∃ WD, wm.alloc (.cells #[.int .i64 ((q : Int) - m), .int .i64 ((q : Int) + m)] 3) = WD := ⟨_, rfl⟩
                  rw [eWD] at ond bd kd ⊢
                  clear eWD on hbm
                  go_loopw [67] (fun i wi => ∃ (t : Nat) (ns : List Int), t ≤ 2 ∧ i = .int .i64 t ∧ Ow wi N (.slice (some ⟨gn, 0, none⟩) (2 * T + 1) cn) ns ∧ HmRow M l m T (2 * T + 1) q t ns ∧ wi.heap[D]? = some (.cells #[.int .i64 ((q : Int) - m), .int .i64 ((q : Int) + m)] 3 (0, 0)) ∧ Below N wo wi) (fun i _ => 2 - (intOf i).toNat)
                  case atStart => exact ⟨0, ns, by omega, rfl, ond, hR, kd, bd⟩
                  case round =>
                    clear ond hR kd bd
                    obtain ⟨t, ns, ht, rfl, on, hR, kd, hbi⟩ := hrel
                    obtain ⟨wi, rfl⟩ : ∃ wi : World, wi = wr := ⟨_, rfl⟩
                    by_cases ht2 : t < 2
                    · obtain ⟨f, hf⟩ : ∃ f : Int, f = if t = 0 then (q : Int) - m else (q : Int) + m := ⟨_, rfl⟩
                      have hcd : wi.cell? ⟨D, t, none⟩ = some (.int .i64 f) := by
                        have : t = 0 ∨ t = 1 := by omega
                        rcases this with rfl | rfl
                        · rw [hf]; simp [World.cell?, kd]
                        · rw [hf]; simp [World.cell?, kd]
                      have hlen : ns.length = 2 * T + 1 := hR.1
                      have hHv := hR.2 q hq2
                      have HP : Hid (hmP M l m ((q : Int) - T) (t + 1) = min (hmP M l m ((q : Int) - T) t) (min M (Hm M l (f - T) + 1))) := Lib.hid (by
                        have : t = 0 ∨ t = 1 := by omega
                        rcases this with rfl | rfl
                        · rw [hf, if_pos rfl, show (q : Int) - m - T = (q : Int) - T - m by omega]; rfl
                        · rw [hf, if_neg (by omega), show (q : Int) + m - T = (q : Int) - T + m by omega]; rfl)
                      have hPle : hmP M l m ((q : Int) - T) t ≤ M := by
                        have hb := (HLB.out ((q : Int) - T)).2
                        have : t = 0 ∨ t = 1 := by omega
                        rcases this with rfl | rfl
                        · exact hb
                        · show min _ _ ≤ M; omega
                      have hfq : f = (q : Int) - m ∨ f = (q : Int) + m := by rw [hf]; split
                                                                             · exact .inl rfl
                                                                             · exact .inr rfl
                      have cN := on.cellAt hlen hq2
                      rw [hHv] at cN
                      have eF : hmF M l m T q t q = hmP M l m ((q : Int) - T) t := by unfold hmF; rw [if_neg (by omega), if_pos rfl]
                      rw [eF] at cN
                      have fN := on.frozenAt hlen q
                      obtain ⟨a, ea⟩ : ∃ a, hmP M l m ((q : Int) - T) t = a := ⟨_, rfl⟩
                      rw [ea] at cN hPle HP
                      have hti : (t : Int) < 2 := by omega
                      have htn : (0 : Int) ≤ (t : Int) := by omega
                      have EA := Lib.hid ea
                      have HF := Lib.hid hf
                      have HNS := Lib.hid hR
                      clear hHv eF ea hf hR
                      by_cases hin : inB f 0 (2 * (T : Int)) = true
                      · obtain ⟨hf0, hf1⟩ := inB_iff.1 hin
                        obtain ⟨r, rfl⟩ : ∃ r : Nat, f = (r : Int) := ⟨f.toNat, by omega⟩
                        have cF := (hbi.cell (p := ⟨gf, r, none⟩) (by show gf < N; omega)).trans (HCF.out r (by omega))
                        rw [HAT.out r (by omega)] at cF
                        have hb1 := HLB.out ((r : Int) - T)
                        obtain ⟨c, ec⟩ : ∃ c, Hm M l ((r : Int) - T) = c := ⟨_, rfl⟩
                        rw [ec] at cF hb1 HP
                        obtain ⟨hc0, hc1⟩ := hb1
                        have wc : IntKind.i64.wrap (c + 1) = c + 1 := IntWalk.i64_in _ (by omega)
                        have hri : (r : Int) < 2 * (T : Int) + 1 := by omega
                        have hqn : (0 : Int) ≤ (q : Int) := by omega
                        have HP2 : Hid (min a (c + 1) = hmP M l m ((q : Int) - T) (t + 1)) := Lib.hid (by rw [HP.out]; omega)
                        have ON := on.set hlen q (min a (c + 1))
                        have kd2 := (blk_other wi ⟨gn, q, none⟩ (.int .i64 (min a (c + 1))) (g := D) (by show D ≠ gn; omega)).trans kd
                        have hb2 := hbi.setCell (p := ⟨gn, q, none⟩) hgnB (.int .i64 (min a (c + 1)))
                        have HON := Lib.hid ON.1
                        have HKD := Lib.hid kd2
                        have HB2 := Lib.hid hb2
                        clear ec ON kd2 hb2 hfq hPle hbi on kd
                        go_wp2_with fail
                        refine (l1In_any _ _ _ _).mono ?_
                        rintro e w1' ⟨rfl, rfl⟩
                        go_wp2_with fail
                        go_region_with (go_at_call 66; refine (least_any _ _ _).mono ?_; rintro e w' ⟨rfl, rfl⟩)
                        all_goals
                          go_wp2
                          go_roundw
                          case rel =>
                            have r1 := HNS.out.set hq2 (x := min a (c + 1)) HP2.out
                            first
                              | exact ⟨t + 1, _, by omega, by go_num, HON.out, r1, HKD.out, HB2.out.drew⟩
                              | exact ⟨t + 1, _, by omega, by go_num, HON.out, r1, HKD.out, HB2.out⟩
                          case measure => (simp [intOf]; try omega)
                      · have hout : f < 0 ∨ 2 * (T : Int) < f := by
                          by_cases h1 : f < 0
                          · exact .inl h1
                          · by_cases h2 : 2 * (T : Int) < f
                            · exact .inr h2
                            · exact absurd (inB_iff.2 ⟨by omega, by omega⟩) hin
                        have hM := HOUT.out (f - T) (by omega)
                        have HP2 : Hid (a = hmP M l m ((q : Int) - T) (t + 1)) := Lib.hid (by rw [HP.out, hM]; omega)
                        have hin : inB f 0 (2 * (T : Int)) = false := by simpa using hin
                        clear hM hout hfq
                        go_wp2_with fail
                        refine (l1In_any _ _ _ _).mono ?_
                        rintro e w1' ⟨rfl, rfl⟩
                        go_wp2_with fail
                        go_roundw
                        case rel => exact ⟨t + 1, ns, by omega, by go_num, on, HNS.out.same (by rw [EA.out]; exact HP2.out), kd, hbi⟩
                        case measure => simp only [intOf]; omega
                    · have ht3 : t = 2 := by omega
                      subst ht3
                      go_wp2
                      go_roundw
                      case rel => exact ⟨q + 1, ns, by omega, by go_num, on, hR.step, hbi⟩
                      case measure => simp only [intOf]; omega
                · have hqe : q = 2 * T + 1 := by omega
                  subst hqe
                  go_wp2
                  go_roundw
                  case rel =>
                    have e : ns = hmList M xs T (k + 1) := hmRow_list hR (hmList_len _ _ _ _) (fun j hj => by rw [hmList_at _ _ _ _ hj, (HTK _).out]; rfl)
                    subst e
                    (repeat apply Exists.intro)
                    refine ⟨⟨k + 1, ?_, ?_, ?_, ?_⟩, rfl⟩
                    · omega
                    · go_num
                    · exact on.mono hz0
                    · exact hb.trans (hbm.mono hz0)
                  case measure => (simp [intOf]; try omega)
            · have hkl : k = xs.length := by omega
              subst hkl
              obtain ⟨gf, cf, rfl, -, -, hgf, hcf⟩ := ho.full (by rw [hmList_len]; omega)
              rw [hmList_len] at hcf ⊢
              obtain ⟨q, hq⟩ : ∃ q : Nat, (T : Int) + s = (q : Int) := ⟨((T : Int) + s).toNat, by omega⟩
              have hcell := hcf q (by omega)
              rw [hmList_at _ _ _ _ (by omega), List.take_of_length_le (Nat.le_refl _), show (q : Int) - (T : Int) = s by omega, GY.out] at hcell
              have hw : IntKind.i64.wrap ((T : Int) + s) = (q : Int) := by rw [hq]; exact IntWalk.i64_in _ (by omega)
              have hqi : (q : Int) < 2 * (T : Int) + 1 := by omega
              have hqn : (0 : Int) ≤ (q : Int) := by omega
              clear hcf ho hq
              go_wp2
              go_ret2
              exact ⟨ret_ib R.out.2.symm R.out.1.symm, hb⟩
  · have ha : askV xs s = false := by simpa using ha
    have R := Lib.hid (few_no ha)
    go_enter Try.func27, Try.ntmps27
    go_wp2_with fail
    refine (siAsked_any _ _ _ _ h hl).mono ?_
    rintro e w1 ⟨rfl, b1⟩
    go_wp2_with fail
    go_ret2
    exact ⟨ret_ib R.out.2.symm R.out.1.symm, b1⟩

end Go.Proofs.Ytcgifmoddojnmaa
