/-
  The parts of a chain, in the program's array and in the model's list, by their contracts. Conditions: cuts of a chain.
-/
import Derived.Test.YtkadmopnfmbedaaArr
import Derived.Test.YtkadmopnfmbedaaCraw
namespace Go.Proofs.Ytkadmopnfmbedaa
open Go.RowKit

def zeroA : Array Value := #[.int .i64 0, .int .i64 0, .int .i64 0, .int .i64 0, .int .i64 0, .int .i64 0, .int .i64 0, .int .i64 0, .int .i64 0, .int .i64 0, .int .i64 0, .int .i64 0, .int .i64 0, .int .i64 0, .int .i64 0, .int .i64 0, .int .i64 0, .int .i64 0, .int .i64 0]
theorem set_same (w : World) (o : Obj) (c : Array Value) (t : TypeId) : ((w.alloc o).alloc (.cells c t)).setRow (w.heap.size + 1) c = (w.alloc o).alloc (.cells c t) := by
  have h := World.setRow_alloc_new (w.alloc o) c c t
  rwa [World.size_alloc] at h
theorem below_setRow {B : Nat} {w w1 : World} (h : Below B w w1) {g : Nat} (hg : B ≤ g) (C : Array Value) : Below B w (w1.setRow g C) :=
  ⟨h.os, h.tape, h.output, by rw [setRow_size]; exact h.size, fun k hk => by rw [setRow_other _ _ _ _ (by omega)]; exact h.block k hk⟩
theorem arr_of_row {w : World} {b : Nat} {t : TypeId} {f : Nat → Value} {ys : List Int} (h : w.rowIs b t 19 f) (hl : ys.length = 19) (hf : ∀ j, j < 19 → f j = .int .i64 (ys.getD j 0)) : w.heap[b]? = some (.cells (arrV ys) t (0, 0)) := by
  obtain ⟨c, hb, hn, hc⟩ := h
  have e : c = arrV ys := by
    apply Array.ext_getElem?
    intro j
    by_cases hj : j < 19
    · rw [hc j hj, hf j hj, arrV_at (by omega)]
    · rw [Array.getElem?_eq_none (by omega), Array.getElem?_eq_none (by rw [arrV_size]; omega)]
  rw [← e]; exact hb

set_option maxHeartbeats 4000000 in
set_option maxRecDepth 100000 in
theorem partsOf_any (m : Int) (v : Value) (xs : List Int) (w : World) (h : Sv w v xs) (hc : CutsOk m xs) :
    Calls Try.prog 31 #[.int .i64 m, v] w fun e w' => e = .returned (.agg (arrV (rawP m xs))) ∧ Below w.heap.size w w' := by
  have hl := hc.2.1
  have hmb := hc.1
  obtain ⟨p, cap, rfl, hx⟩ := h
  have HC := Lib.hid hc
  clear hc
  have hr0 : ((w.alloc (.cells zeroA 43)).alloc (.cells zeroA 43)).rowIs (w.heap.size + 1) 43 19 (fun j => .int .i64 (cellAt xs 0 j)) := by
    refine ⟨zeroA, blk_b w _ _, rfl, fun j hj => ?_⟩
    show zeroA[j]? = some (.int .i64 (cellAt xs 0 j))
    rw [cellAt_zero]
    have : j = 0 ∨ j = 1 ∨ j = 2 ∨ j = 3 ∨ j = 4 ∨ j = 5 ∨ j = 6 ∨ j = 7 ∨ j = 8 ∨ j = 9 ∨ j = 10 ∨ j = 11 ∨ j = 12 ∨ j = 13 ∨ j = 14 ∨ j = 15 ∨ j = 16 ∨ j = 17 ∨ j = 18 := by omega
    rcases this with rfl | rfl | rfl | rfl | rfl | rfl | rfl | rfl | rfl | rfl | rfl | rfl | rfl | rfl | rfl | rfl | rfl | rfl | rfl <;> rfl
  have hb0 : Below w.heap.size w ((w.alloc (.cells zeroA 43)).alloc (.cells zeroA 43)) := ((Below.refl _ _).alloc (Nat.le_refl _) _).alloc (by simp) _
  have hz0 := blk_a w (.cells zeroA 43) (.cells zeroA 43)
  have HR0 := Lib.hid hr0
  have HZ0 := Lib.hid hz0
  clear hr0 hz0
  go_enter Try.func31, Try.ntmps31
  go_wp2_with (refine wpList_store_row rfl 43 _ _ rfl (w.heap.size + 1) zeroA rfl rfl 43 zeroA (by exact blk_b w _ _) (by kernel_rfl) rfl (by kernel_rfl) ?_; erw [set_same])
  go_loopw [6, 12] (fun f i wr => ∃ k : Nat, k ≤ xs.length ∧ i = .int .i64 k ∧ f = .int .i64 (freeAt xs k) ∧ wr.rowIs (w.heap.size + 1) 43 19 (fun j => .int .i64 (cellAt xs k j)) ∧ wr.heap[w.heap.size]? = some (.cells zeroA 43 (0, 0)) ∧ Below w.heap.size w wr) (fun _ i _ => xs.length - (intOf i).toNat)
  case atStart => exact ⟨0, Nat.zero_le _, rfl, rfl, HR0.out, HZ0.out, hb0⟩
  case round =>
    clear hb0
    obtain ⟨k, hk, rfl, rfl, hrow, hz, hb⟩ := hrel
    have hfb := HC.out.free hk
    obtain ⟨fr, efr⟩ : ∃ fr, freeAt xs k = fr := ⟨_, rfl⟩
    rw [efr] at hfb ⊢
    have FR := Lib.hid efr
    have HZ := Lib.hid hz
    clear efr hz
    by_cases hlt : k < xs.length
    · obtain ⟨b, off, rfl, hbl, hcl⟩ := hx (by omega)
      have hcell := (hb.cell (p := ⟨b, off + k, none⟩) hbl).trans (hcl k hlt)
      have hst := HC.out.step hlt
      rw [FR.out] at hst
      obtain ⟨x, ex⟩ : ∃ x, xs.getD k 0 = x := ⟨_, rfl⟩
      rw [ex] at hcell hst
      have EX := Lib.hid ex
      clear ex hcl hx
      have hold0 : wr.cell? ⟨w.heap.size + 1, 2 * k, none⟩ = some (.int .i64 (cellAt xs k (2 * k))) := hrow.cell (by omega)
      have hfz := hrow.frozen (2 * k)
      have hfz1 := hrow.frozen (2 * k + 1)
      have hold1 : wr.cell? ⟨w.heap.size + 1, 2 * k + 1, none⟩ = some (.int .i64 (cellAt xs k (2 * k + 1))) := hrow.cell (by omega)
      have ht0 : (2 * (k : Int)).toNat = 2 * k := by omega
      have ht1 : (2 * (k : Int) + 1).toNat = 2 * k + 1 := by omega
      have hi0 : (0 : Int) ≤ 2 * (k : Int) := by omega
      have hi1 : 2 * (k : Int) < 19 := by omega
      have hi2 : (0 : Int) ≤ 2 * (k : Int) + 1 := by omega
      have hi3 : 2 * (k : Int) + 1 < 19 := by omega
      go_wp2
      go_roundw
      case rel =>
        refine ⟨k + 1, by omega, by go_num, by rw [free_next, EX.out], ((hrow.set (2 * k) _).set (2 * k + 1) _).congr (fun j hj => ?_), ?_, (hb.setCell (by show w.heap.size ≤ w.heap.size + 1; omega) _).setCell (by show w.heap.size ≤ w.heap.size + 1; omega) _⟩
        · show (if j = 2 * k + 1 then _ else if j = 2 * k then _ else _) = Value.int .i64 (cellAt xs (k + 1) j)
          rw [cellAt_succ xs k j hlt, EX.out, FR.out]
          split
          · rfl
          · split <;> rfl
        · rw [heap_setCell_other _ _ _ _ (by show w.heap.size ≠ w.heap.size + 1; omega), heap_setCell_other _ _ _ _ (by show w.heap.size ≠ w.heap.size + 1; omega)]
          exact HZ.out
      case measure => simp [intOf]; omega
    · have hkl : k = xs.length := by omega
      subst hkl
      clear hx
      obtain ⟨n, en⟩ : ∃ n, xs.length = n := ⟨_, rfl⟩
      have HE := Lib.hid en
      rw [en] at hl hrow ⊢
      clear en hk hlt
      have hold0 : wr.cell? ⟨w.heap.size + 1, 2 * n, none⟩ = some (.int .i64 (cellAt xs n (2 * n))) := hrow.cell (by omega)
      have hfz := hrow.frozen (2 * n)
      have ht0 : (2 * (n : Int)).toNat = 2 * n := by omega
      have hi0 : (0 : Int) ≤ 2 * (n : Int) := by omega
      have hi1 : 2 * (n : Int) < 19 := by omega
      have hlen : (rawP m xs).length = 19 := rawP_len (by rw [HE.out]; omega)
      have hA := arr_of_row (hrow.set (2 * n) (.int .i64 (m - fr))) hlen (fun j hj => by
        show (if j = 2 * n then _ else _) = _
        rw [rawP_at]
        unfold cellEnd
        rw [HE.out]
        split
        · have e := FR.out
          rw [HE.out] at e
          rw [e]
        · rfl)
      obtain ⟨C, hC⟩ : ∃ C, arrV (rawP m xs) = C := ⟨_, rfl⟩
      have HCe := Lib.hid hC
      rw [hC] at hA
      have hCs : C.size = 19 := by rw [← hC, arrV_size, hlen]
      have hCo : C.all (·.oneCell') = true := by rw [← hC]; simp [arrV, Value.oneCell']
      have hZ2 : (wr.setCell ⟨w.heap.size + 1, 2 * n, none⟩ (.int .i64 (m - fr))).heap[w.heap.size]? = some (.cells zeroA 43 (0, 0)) := by
        rw [heap_setCell_other _ _ _ _ (by show w.heap.size ≠ w.heap.size + 1; omega)]; exact HZ.out
      have HA := Lib.hid hA
      have HCs := Lib.hid hCs
      have HCo := Lib.hid hCo
      have HZ2 := Lib.hid hZ2
      clear hA hC hCs hCo hZ2 hlen
      go_wp2_with (first
        | (refine wpList_load_row rfl 43 _ rfl (w.heap.size + 1) rfl 43 C (0, 0) _ (by exact HA.out) Try.arrU rfl (by rw [HCs.out]; exact Try.arrI) ?_)
        | (refine wpList_store_row rfl 43 _ _ rfl w.heap.size C rfl rfl 43 zeroA (by exact HZ2.out) (by rw [HCs.out]; exact Try.arrI) (by rw [HCs.out]; rfl) HCo.out ?_))
      have hb2 : Below w.heap.size w ((wr.setCell ⟨w.heap.size + 1, 2 * n, none⟩ (.int .i64 (m - fr))).setRow w.heap.size C) := below_setRow (hb.setCell (by show w.heap.size ≤ w.heap.size + 1; omega) _) (Nat.le_refl _) C
      have hg2 : ((wr.setCell ⟨w.heap.size + 1, 2 * n, none⟩ (.int .i64 (m - fr))).setRow w.heap.size C).heap[w.heap.size]? = some (.cells C 43 (0, 0)) := setRow_heap _ _ _ _ _ _ HZ2.out
      refine bodyPost_ret (v := .agg C) ?_ rfl ⟨by rw [HCe.out], hb2⟩
      exact results_cell_row rfl _ _ w.heap.size _ C (0, 0) _ rfl hg2 Try.arrU rfl (by rw [HCs.out]; exact Try.arrI)

set_option maxHeartbeats 4000000 in
theorem chParts_any (m : Int) (v : Value) (xs : List Int) (w : World) (h : Sv w v xs) (hc : CutsOk m xs) :
    Calls Try.prog 53 #[.int .i64 m, v] w fun e w' => ∃ u, e = .returned u ∧ Ow w' w.heap.size u (partsP m xs) ∧ Below w.heap.size w w' := by
  have hl := hc.2.1
  have hmb := hc.1
  obtain ⟨p, cap, rfl, hx⟩ := h
  have HC := Lib.hid hc
  clear hc
  go_enter Try.func53, Try.ntmps53
  go_wp2
  go_loopw [5, 6, 11] (fun a f i wr => ∃ (k : Nat) (out : List Int), k ≤ xs.length ∧ i = .int .i64 k ∧ f = .int .i64 (freeAt xs k) ∧ PartsAt m xs k out ∧ Ow wr w.heap.size a out ∧ Below w.heap.size w wr) (fun _ _ i _ => xs.length - (intOf i).toNat)
  case atStart => exact ⟨0, [], Nat.zero_le _, rfl, rfl, PartsAt.zero m xs, ow_nil _ _, Below.refl _ _⟩
  case round =>
    obtain ⟨k, out, hk, rfl, rfl, hp, ho, hb⟩ := hrel
    have hfb := HC.out.free hk
    obtain ⟨fr, efr⟩ : ∃ fr, freeAt xs k = fr := ⟨_, rfl⟩
    have hol := hp.2
    rw [efr] at hfb ⊢
    have FR := Lib.hid efr
    have hsz := hb.size
    clear efr
    by_cases hlt : k < xs.length
    · obtain ⟨b, off, rfl, hbl, hcl⟩ := hx (by omega)
      have hcell := (hb.cell (p := ⟨b, off + k, none⟩) hbl).trans (hcl k hlt)
      have hst := HC.out.step hlt
      rw [FR.out] at hst
      obtain ⟨x, ex⟩ : ∃ x, xs.getD k 0 = x := ⟨_, rfl⟩
      rw [ex] at hcell hst
      have EX := Lib.hid ex
      clear ex hcl hx
      by_cases hgt : fr < x
      · have HP := Lib.hid (hp.gap hlt (by rw [FR.out, EX.out]; exact hgt))
        clear hp
        go_wp2_with (at_builtin; first
          | (refine wpList_append_src rfl _ _ rfl w.heap.size _ out rfl (ho.alloc _) _ [x - fr] rfl (src_one _ _) (by simp only [List.length_cons, List.length_nil]; omega) (by simp; omega) ?_; intro v2 w2 h2 g2; have b2 := (hb.alloc hsz _).trans ((ho.alloc _).grown (by simp; omega) g2); clear ho g2 hb; have z2 := b2.size)
          | (refine wpList_append_src rfl _ _ rfl w.heap.size _ (out ++ [x - fr]) rfl (h2.alloc _) _ [1] rfl (src_one _ _) (by simp only [List.length_append, List.length_cons, List.length_nil]; omega) (by simp; omega) ?_; intro v3 w3 h3 g3; have b3 := (b2.alloc z2 _).trans ((h2.alloc _).grown (by simp; omega) g3); clear h2 g3 b2))
        go_roundw
        case rel => exact ⟨k + 1, out ++ [x - fr] ++ [1], by omega, by go_num, by rw [free_next, EX.out], by have := HP.out; rwa [FR.out, EX.out] at this, h3, b3⟩
        case measure => simp only [intOf]; omega
      · have HP := Lib.hid (hp.none hlt (by rw [FR.out, EX.out]; exact hgt))
        clear hp
        go_wp2_with (at_builtin; refine wpList_append_src rfl _ _ rfl w.heap.size _ out rfl (ho.alloc _) _ [1] rfl (src_one _ _) (by simp only [List.length_cons, List.length_nil]; omega) (by simp; omega) ?_; intro v3 w3 h3 g3)
        have b3 := (hb.alloc hsz _).trans ((ho.alloc _).grown (by simp; omega) g3)
        clear ho g3 hb
        go_roundw
        case rel => exact ⟨k + 1, out ++ [1], by omega, by go_num, by rw [free_next, EX.out], HP.out, h3, b3⟩
        case measure => simp only [intOf]; omega
    · clear hx
      by_cases hfm : fr < m
      · have HP := Lib.hid (hp.last hlt (by rw [FR.out]; exact hfm))
        clear hp
        go_wp2_with (at_builtin; refine wpList_append_src rfl _ _ rfl w.heap.size _ out rfl (ho.alloc _) _ [m - fr] rfl (src_one _ _) (by simp only [List.length_cons, List.length_nil]; omega) (by simp; omega) ?_; intro v3 w3 h3 g3)
        have b3 := (hb.alloc hsz _).trans ((ho.alloc _).grown (by simp; omega) g3)
        clear ho g3 hb
        go_wp2
        go_ret
        exact ⟨_, rfl, by have e := HP.out; rw [FR.out] at e; rw [← e]; exact h3, b3⟩
      · have HP := Lib.hid (hp.full hlt (by rw [FR.out]; exact hfm))
        clear hp
        go_wp2
        go_ret
        exact ⟨_, rfl, by rw [← HP.out]; exact ho, hb⟩

end Go.Proofs.Ytkadmopnfmbedaa
