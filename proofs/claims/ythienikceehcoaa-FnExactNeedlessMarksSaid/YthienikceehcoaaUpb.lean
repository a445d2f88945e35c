/-
  Sets of lengths in the program: made of a list, with a number more or less, as a list again, and the lengths that a ruler measures, by their contracts. Conditions: numbers of 0..60; a ruler.
-/
import Derived.Test.YthienikceehcoaaUpa
import Derived.Test.YthienikceehcoaaUis
namespace Go.Proofs.Ythienikceehcoaa
open Go.RowKit

theorem arr_set {w : World} {b : Nat} {t : TypeId} {p : Int → Bool} (h : w.rowIs b t 61 (fun j => .bool (p (j : Int)))) : w.heap[b]? = some (.cells (bA p) t (0, 0)) := arG_row h
theorem bA_congr {p q : Int → Bool} (h : ∀ j : Nat, j < 61 → p j = q j) : bA p = bA q := arG_congr fun j hj => by rw [h j hj]
theorem set_start (w : World) : ((w.alloc (.cells litB 33)).alloc (.cells litB 33)).rowIs (w.heap.size + 1) 33 61 (fun _ => .bool false) :=
  row_arG (by rw [litB_eq]; exact blk_b w _ _)
theorem take_mem {ms : List Int} {k : Nat} {y : Int} (hk : k < ms.length) (hy : ms.getD k 0 = y) (x : Int) : decide (x ∈ ms.take (k + 1)) = (decide (x ∈ ms.take k) || (x == y)) := by
  rw [take_next hk hy, Bool.eq_iff_iff]
  simp
set_option maxHeartbeats 8000000 in
set_option maxRecDepth 20000 in
theorem setOf_any (v : Value) (ms : List Int) (w : World) (h : Sv w v ms) (hm : ∀ j, j < ms.length → 0 ≤ ms.getD j 0 ∧ ms.getD j 0 ≤ 60) (hl : ms.length ≤ 1099511627776) :
    Calls Try.prog 28 #[v] w fun e w' => e = .returned (.agg (bA fun x => decide (x ∈ ms))) ∧ Below w.heap.size w w' := by
  obtain ⟨p, cap, rfl, hx⟩ := h
  have HX := Lib.hid hx
  have HM := Lib.hid hm
  have hr0 := Lib.hid (set_start w)
  have hz0 : Hid (((w.alloc (.cells litB 33)).alloc (.cells litB 33)).heap[w.heap.size]? = some (.cells litB 33 (0, 0))) := Lib.hid (blk_a w _ _)
  have hb0 : Below w.heap.size w ((w.alloc (.cells litB 33)).alloc (.cells litB 33)) := ((Below.refl _ _).alloc (Nat.le_refl _) _).alloc (by simp) _
  clear hx hm
  go_enter Try.func28, Try.ntmps28
  go_wp2_with (refine wpList_store_row rfl 33 _ _ rfl (w.heap.size + 1) litB rfl rfl 33 litB (by exact blk_b w _ _) (by kernel_rfl) rfl (by kernel_rfl) ?_; erw [set_same])
  go_loopw [9] (fun x wr => ∃ i : Nat, i ≤ ms.length ∧ x = .int .i64 i ∧ wr.rowIs (w.heap.size + 1) 33 61 (fun j => .bool (decide ((j : Int) ∈ ms.take i))) ∧ wr.heap[w.heap.size]? = some (.cells litB 33 (0, 0)) ∧ Below w.heap.size w wr) (fun x _ => ms.length - (intOf x).toNat)
  case atStart => exact ⟨0, Nat.zero_le _, rfl, hr0.out.congr (fun j _ => by simp), hz0.out, hb0⟩
  case round =>
    clear hb0 hr0 hz0
    obtain ⟨i, hi, rfl, hrow, hz, hbw⟩ := hrel
    have HZ := Lib.hid hz
    clear hz
    by_cases hlt : i < ms.length
    · obtain ⟨b, off, rfl, hbl, hc⟩ := HX.out (by omega)
      have hcell := (hbw.cell (p := ⟨b, off + i, none⟩) hbl).trans (hc i hlt)
      have hyb := HM.out i hlt
      obtain ⟨y, ey⟩ : ∃ y, ms.getD i 0 = y := ⟨_, rfl⟩
      have TM := Lib.hid (take_mem hlt ey)
      rw [ey] at hcell hyb
      obtain ⟨d, rfl⟩ : ∃ d : Nat, y = d := ⟨y.toNat, by omega⟩
      have hold : wr.cell? ⟨w.heap.size + 1, d, none⟩ = some (.bool (decide ((d : Int) ∈ ms.take i))) := hrow.cell (by omega)
      have hfz := hrow.frozen d
      have HW := Lib.hid hrow
      have hd0 : (0 : Int) ≤ (d : Int) := by omega
      have hd1 : (d : Int) < 61 := by omega
      clear hc ey hrow
      go_wp2
      go_roundw
      case rel =>
        refine ⟨i + 1, by omega, by go_num, (HW.out.set d _).congr (fun j hj => ?_), ?_, hbw.setCell (by show w.heap.size ≤ w.heap.size + 1; omega) _⟩
        · show (if j = d then _ else _) = _
          rw [TM.out]
          by_cases e : j = d
          · subst e; simp
          · have e2 : ((j : Int) == (d : Int)) = false := by simp; omega
            rw [if_neg e, e2, Bool.or_false]
        · rw [heap_setCell_other _ _ _ _ (by show w.heap.size ≠ w.heap.size + 1; omega)]
          exact HZ.out
      case measure => simp [intOf]; omega
    · have hie : i = ms.length := by omega
      subst hie
      rw [List.take_length] at hrow
      have HA := Lib.hid (arr_set (p := fun x => decide (x ∈ ms)) hrow)
      clear hrow HX
      obtain ⟨C, hC⟩ : ∃ C, bA (fun x => decide (x ∈ ms)) = C := ⟨_, rfl⟩
      have HCe := Lib.hid hC
      have HCs : Hid (C.size = 61) := Lib.hid (by rw [← hC]; exact bA_size _)
      have HCo : Hid (C.all (·.oneCell') = true) := Lib.hid (by rw [← hC]; exact bA_one _)
      rw [hC] at HA
      clear hC
      go_wp2_with (first
        | (refine wpList_load_row rfl 33 _ rfl (w.heap.size + 1) rfl 33 C (0, 0) _ (by exact HA.out) Try.setU rfl (by rw [HCs.out]; exact Try.setI) ?_)
        | (refine wpList_store_row rfl 33 _ _ rfl w.heap.size C rfl rfl 33 litB (by exact HZ.out) (by rw [HCs.out]; exact Try.setI) (by rw [HCs.out]; rfl) HCo.out ?_))
      have hb2 : Below w.heap.size w (wr.setRow w.heap.size C) := below_setRow hbw (Nat.le_refl _) C
      have hg2 : (wr.setRow w.heap.size C).heap[w.heap.size]? = some (.cells C 33 (0, 0)) := setRow_heap _ _ _ _ _ _ HZ.out
      refine bodyPost_ret (v := .agg C) ?_ rfl ⟨by rw [HCe.out], hb2⟩
      exact results_cell_row rfl _ _ w.heap.size _ C (0, 0) _ rfl hg2 Try.setU rfl (by rw [HCs.out]; exact Try.setI)

set_option maxHeartbeats 8000000 in
set_option maxRecDepth 20000 in
theorem lengthsOf_any (v : Value) (ms : List Int) (w : World) (h : Sp w v ms) (S : Rul ms) :
    Calls Try.prog 22 #[v] w fun e w' => e = .returned (.agg (bA fun x => decide (0 < tm ms x))) ∧ Below w.heap.size w w' := by
  have hb0 : Below w.heap.size w ((w.alloc (.cells litB 33)).alloc (.cells litB 33)) := ((Below.refl _ _).alloc (Nat.le_refl _) _).alloc (by simp) _
  have PO := Lib.hid (pairsOf_any v ms _ (h.below hb0 (Nat.le_refl _)) S)
  have hr0 := Lib.hid (set_start w)
  have hz0 : Hid (((w.alloc (.cells litB 33)).alloc (.cells litB 33)).heap[w.heap.size]? = some (.cells litB 33 (0, 0))) := Lib.hid (blk_a w _ _)
  have IX := Lib.hid (fun (k : Nat) (hk : k < 61) => iidx_run (tm ms) hk)
  obtain ⟨CP, eCP⟩ : ∃ CP, iA (tm ms) = CP := ⟨_, rfl⟩
  rw [eCP] at PO IX
  clear h eCP
  go_enter Try.func22, Try.ntmps22
  go_wp2_with (first
    | (refine wpList_store_row rfl 33 _ _ rfl (w.heap.size + 1) litB rfl rfl 33 litB (by exact blk_b w _ _) (by kernel_rfl) rfl (by kernel_rfl) ?_; erw [set_same])
    | (go_at_call 35; refine PO.out.mono ?_; rintro e w1 ⟨rfl, b1⟩))
  have hz1 : ((w.alloc (.cells litB 33)).alloc (.cells litB 33)).heap.size = w.heap.size + 2 := by simp
  have hb1 : Below w.heap.size w w1 := hb0.trans (b1.mono (by rw [hz1]; omega))
  have hr1 : Hid (w1.rowIs (w.heap.size + 1) 33 61 (fun _ => .bool false)) := by
    obtain ⟨c, h1, h2⟩ := hr0.out
    exact Lib.hid ⟨c, (b1.block _ (by rw [hz1]; omega)).trans h1, h2⟩
  have hzz : Hid (w1.heap[w.heap.size]? = some (.cells litB 33 (0, 0))) := Lib.hid ((b1.block _ (by rw [hz1]; omega)).trans hz0.out)
  clear hr0 hz0 PO hb0 b1 hz1
  go_loopw [9] (fun x wr => ∃ i : Nat, i ≤ 61 ∧ x = .int .i64 i ∧ wr.rowIs (w.heap.size + 1) 33 61 (fun j => .bool (decide (j < i) && decide (0 < tm ms (j : Int)))) ∧ wr.heap[w.heap.size]? = some (.cells litB 33 (0, 0)) ∧ Below w.heap.size w wr) (fun x _ => 61 - (intOf x).toNat)
  case atStart => exact ⟨0, Nat.zero_le _, rfl, hr1.out.congr (fun j _ => by simp), hzz.out, hb1⟩
  case round =>
    clear hb1 hr1 hzz
    obtain ⟨i, hi, rfl, hrow, hz, hbw⟩ := hrel
    have HZ := Lib.hid hz
    clear hz
    by_cases hlt : i < 61
    · have hix := IX.out i hlt
      obtain ⟨y, ey⟩ : ∃ y, tm ms (i : Int) = y := ⟨_, rfl⟩
      rw [ey] at hix
      have EY := Lib.hid ey
      have hold : wr.cell? ⟨w.heap.size + 1, i, none⟩ = some (.bool (decide (i < i) && decide (0 < tm ms (i : Int)))) := hrow.cell hlt
      have hfz := hrow.frozen i
      have HW := Lib.hid hrow
      have hd1 : (i : Int) < 61 := by omega
      clear ey hrow
      go_wp2
      go_roundw
      case rel =>
        refine ⟨i + 1, by omega, by go_num, (HW.out.set i _).congr (fun j hj => ?_), ?_, hbw.setCell (by show w.heap.size ≤ w.heap.size + 1; omega) _⟩
        · show (if j = i then _ else _) = _
          by_cases e : j = i
          · subst e; rw [if_pos rfl, EY.out]; simp
          · have e2 : decide (j < i + 1) = decide (j < i) := by rw [Bool.eq_iff_iff]; simp; omega
            rw [if_neg e, e2]
        · rw [heap_setCell_other _ _ _ _ (by show w.heap.size ≠ w.heap.size + 1; omega)]
          exact HZ.out
      case measure => simp [intOf]; omega
    · have hie : i = 61 := by omega
      subst hie
      have HA := Lib.hid (arr_set (p := fun x => decide (0 < tm ms x)) (hrow.congr fun j hj => by rw [decide_eq_true hj, Bool.true_and]))
      clear hrow IX
      obtain ⟨C, hC⟩ : ∃ C, bA (fun x => decide (0 < tm ms x)) = C := ⟨_, rfl⟩
      have HCe := Lib.hid hC
      have HCs : Hid (C.size = 61) := Lib.hid (by rw [← hC]; exact bA_size _)
      have HCo : Hid (C.all (·.oneCell') = true) := Lib.hid (by rw [← hC]; exact bA_one _)
      rw [hC] at HA
      clear hC
      go_wp2_with (first
        | (refine wpList_load_row rfl 33 _ rfl (w.heap.size + 1) rfl 33 C (0, 0) _ (by exact HA.out) Try.setU rfl (by rw [HCs.out]; exact Try.setI) ?_)
        | (refine wpList_store_row rfl 33 _ _ rfl w.heap.size C rfl rfl 33 litB (by exact HZ.out) (by rw [HCs.out]; exact Try.setI) (by rw [HCs.out]; rfl) HCo.out ?_))
      have hb2 : Below w.heap.size w (wr.setRow w.heap.size C) := below_setRow hbw (Nat.le_refl _) C
      have hg2 : (wr.setRow w.heap.size C).heap[w.heap.size]? = some (.cells C 33 (0, 0)) := setRow_heap _ _ _ _ _ _ HZ.out
      refine bodyPost_ret (v := .agg C) ?_ rfl ⟨by rw [HCe.out], hb2⟩
      exact results_cell_row rfl _ _ w.heap.size _ C (0, 0) _ rfl hg2 Try.setU rfl (by rw [HCs.out]; exact Try.setI)
end Go.Proofs.Ythienikceehcoaa
