/-
  Cards in the program: a card with numbers, its list, by their contracts. Condition: numbers of 0..127.
-/
import Derived.Test.YtmcbhpmkhbmlgaaQar
import Derived.Test.YtmcbhpmkhbmlgaaRis
namespace Go.Proofs.Ytmcbhpmkhbmlgaa
open Go.RowKit

/-- The numbers of the first k, as a set. -/
def inK (xs : List Int) (k : Nat) (x : Int) : Bool := decide (x ∈ xs.take k)
theorem inK_zero (xs : List Int) : inK xs 0 = fun _ => false := by funext x; simp [inK]
theorem inK_all (xs : List Int) : inK xs xs.length = inL xs := by funext x; simp [inK, inL]
theorem inK_succ {xs : List Int} {k : Nat} {d : Int} (hk : k < xs.length) (hd : xs.getD k 0 = d) : (fun x => if x = d then true else inK xs k x) = inK xs (k + 1) := by
  funext x
  have e : xs[k]? = some d := by rw [List.getElem?_eq_getElem hk]; rw [List.getD_eq_getElem?_getD, List.getElem?_eq_getElem hk] at hd; simpa using hd
  unfold inK
  rw [List.take_add_one, e]
  by_cases h : x = d
  · simp [h]
  · simp [h]

set_option maxHeartbeats 4000000 in
set_option maxRecDepth 100000 in
theorem cardWith_any (v : Value) (xs : List Int) (w : World) (h : Sv w v xs) (hb : ∀ j, j < xs.length → 0 ≤ xs.getD j 0 ∧ xs.getD j 0 ≤ 127) (hl : xs.length ≤ 1099511627776) :
    Calls Try.prog 67 #[v] w fun e w' => e = .returned (.agg (bA (inL xs))) ∧ Below w.heap.size w w' := by
  obtain ⟨p, cap, rfl, hx⟩ := h
  have HX := Lib.hid hx
  have HB := Lib.hid hb
  clear hx hb
  go_enter Try.func67, Try.ntmps67
  go_wp2_with (refine wpList_store_row rfl 61 _ _ rfl (w.heap.size + 1) Try.zeroCells61 rfl rfl 61 Try.zeroCells61 (by exact blk_b w _ _) (by rw [Try.zcS]; exact Try.setI) rfl Try.zcO ?_)
  rw [set_same]
  obtain ⟨W, eW⟩ : ∃ W, (w.alloc (.cells Try.zeroCells61 61)).alloc (.cells Try.zeroCells61 61) = W := ⟨_, rfl⟩
  have hA : W.heap[w.heap.size]? = some (.cells Try.zeroCells61 61 (0, 0)) := by rw [← eW]; exact blk_a w _ _
  have hB : W.heap[w.heap.size + 1]? = some (.cells (bA (inK xs 0)) 61 (0, 0)) := by rw [← eW, inK_zero]; rw [Try.zcE]; exact blk_b w _ _
  have hb0 : Below w.heap.size w W := by rw [← eW]; exact ((Below.refl _ _).alloc (Nat.le_refl _) _).alloc (by simp) _
  rw [eW]
  clear eW
  go_loopw [9] (fun i wr => ∃ k : Nat, k ≤ xs.length ∧ i = .int .i64 k ∧ wr.heap[w.heap.size]? = some (.cells Try.zeroCells61 61 (0, 0)) ∧ wr.heap[w.heap.size + 1]? = some (.cells (bA (inK xs k)) 61 (0, 0)) ∧ Below w.heap.size w wr) (fun i _ => xs.length - (intOf i).toNat)
  case atStart => exact ⟨0, Nat.zero_le _, rfl, hA, hB, hb0⟩
  case round =>
    clear hA hB hb0
    obtain ⟨k, hk, rfl, hA, hB, hb⟩ := hrel
    by_cases hlt : k < xs.length
    · obtain ⟨b, off, rfl, hbl, hc⟩ := HX.out (by omega)
      have hcell := (hb.cell (p := ⟨b, off + k, none⟩) hbl).trans (hc k hlt)
      have hbd := HB.out k hlt
      have HN := Lib.hid (inK_succ hlt rfl)
      obtain ⟨x, ex⟩ : ∃ x, xs.getD k 0 = x := ⟨_, rfl⟩
      rw [ex] at hcell hbd HN
      obtain ⟨d, rfl⟩ : ∃ d : Nat, x = d := ⟨x.toNat, by omega⟩
      have hd : d < 128 := by omega
      have hd0 : (0 : Int) ≤ (d : Int) := by omega
      have hd1 : (d : Int) < 128 := by omega
      have hold : wr.cell? ⟨w.heap.size + 1, d, none⟩ = some (.bool (inK xs k d)) := by rw [cell_of_row _ _ _ _ _ _ hB]; exact bA_at _ hd
      have hfr : wr.frozen? ⟨w.heap.size + 1, d, none⟩ = false := frozen_of_row _ _ _ _ _ hB
      have hnew := heap_setCell_same wr (w.heap.size + 1) d _ _ (.bool true) hB
      have hA2 : (wr.setCell ⟨w.heap.size + 1, d, none⟩ (.bool true)).heap[w.heap.size]? = some (.cells Try.zeroCells61 61 (0, 0)) := by rw [heap_setCell_other _ _ _ _ (by show w.heap.size ≠ w.heap.size + 1; omega)]; exact hA
      rw [bA_set _ hd, HN.out] at hnew
      have hb2 := hb.setCell (p := ⟨w.heap.size + 1, d, none⟩) (by show w.heap.size ≤ w.heap.size + 1; omega) (.bool true)
      obtain ⟨y, ey⟩ : ∃ y, inK xs k d = y := ⟨_, rfl⟩
      rw [ey] at hold
      clear hc ex ey hA hB hbd hb
      have hnew := Lib.hid hnew
      have hA2 := Lib.hid hA2
      go_wp2
      go_roundw
      case rel => exact ⟨k + 1, by omega, by go_num, hA2.out, hnew.out, hb2⟩
      case measure => simp only [intOf]; omega
    · have hke : k = xs.length := by omega
      subst hke
      rw [inK_all] at hB
      have HS : Hid ((bA (inL xs)).size = 128) := Lib.hid (bA_size _)
      have HO : Hid ((bA (inL xs)).all (·.oneCell') = true) := Lib.hid (bA_one _)
      obtain ⟨C, eC⟩ : ∃ C, bA (inL xs) = C := ⟨_, rfl⟩
      rw [eC] at hB HS HO
      have EC := Lib.hid eC
      have HA := Lib.hid hA
      have HBB := Lib.hid hB
      clear eC hA hB
      go_wp2_with (first
        | (refine wpList_load_row rfl 61 _ rfl (w.heap.size + 1) rfl 61 C (0, 0) _ (by exact HBB.out) Try.setU rfl (by rw [HS.out]; exact Try.setI) ?_)
        | (refine wpList_store_row rfl 61 _ _ rfl w.heap.size C rfl rfl 61 Try.zeroCells61 (by exact HA.out) (by rw [HS.out]; exact Try.setI) (by rw [HS.out]; exact Try.zcS) HO.out ?_))
      have hg2 := setRow_heap wr w.heap.size _ C _ _ HA.out
      refine bodyPost_ret (v := .agg C) ?_ rfl ⟨by rw [EC.out], below_setRow hb (Nat.le_refl _) C⟩
      exact results_cell_row rfl _ _ w.heap.size _ C (0, 0) _ rfl hg2 Try.setU rfl (by rw [HS.out]; exact Try.setI)

set_option maxHeartbeats 4000000 in
set_option maxRecDepth 100000 in
theorem numbersIn_any (g : Nat) (p : Int → Bool) (w : World) (hg : g < w.heap.size) (hc : ∀ j, j < 128 → w.cell? ⟨g, j, none⟩ = some (.bool (p (j : Int)))) :
    Calls Try.prog 68 #[.slice (some ⟨g, 0, none⟩) 128 128] w fun e w' => ∃ u, e = .returned u ∧ Ow w' w.heap.size u (sL p) ∧ Below w.heap.size w w' := by
  have HC := Lib.hid hc
  clear hc
  go_enter Try.func68, Try.ntmps68
  go_wp2
  have ho0 := ow_empty w
  have hb0 : Below w.heap.size w (w.alloc (.cells #[] 3)) := (Below.refl _ _).alloc (Nat.le_refl _) _
  go_loopw [3, 9] (fun a i wr => ∃ k : Nat, k ≤ 128 ∧ i = .int .i64 k ∧ Ow wr w.heap.size a (sLK p k) ∧ Below w.heap.size w wr) (fun _ i _ => 128 - (intOf i).toNat)
  case atStart => exact ⟨0, by omega, rfl, by rw [show sLK p 0 = [] from rfl]; exact ho0, hb0⟩
  case round =>
    clear ho0 hb0
    obtain ⟨k, hk, rfl, ho, hb⟩ := hrel
    have hsz := hb.size
    have hfl := sLK_len p k
    by_cases hlt : k < 128
    · have hcell := (hb.cell (p := ⟨g, k, none⟩) hg).trans (HC.out k hlt)
      have hk1 : (k : Int) < 128 := by omega
      by_cases h0 : p k = true
      · have FS := Lib.hid (sLK_yes h0)
        rw [h0] at hcell
        clear h0
        go_wp2_with (at_builtin; refine wpList_append_src rfl _ _ rfl w.heap.size _ (sLK p k) rfl (ho.alloc _) _ [(k : Int)] rfl (src_one _ _) (by simp only [List.length_cons, List.length_nil]; omega) (by simp; omega) ?_; intro v' w3 h3 g3)
        have b3 := (hb.alloc hsz _).trans ((ho.alloc _).grown (by simp; omega) g3)
        clear ho g3 hb
        go_roundw
        case rel => exact ⟨k + 1, by omega, by go_num, by rw [FS.out]; exact h3, b3⟩
        case measure => simp only [intOf]; omega
      · have h0 : p k = false := by simpa using h0
        have FS := Lib.hid (sLK_no h0)
        rw [h0] at hcell
        clear h0
        go_wp2
        go_roundw
        case rel => exact ⟨k + 1, by omega, by go_num, by rw [FS.out]; exact ho, hb⟩
        case measure => simp only [intOf]; omega
    · obtain rfl : k = 128 := by omega
      go_wp2
      go_ret
      exact ⟨_, rfl, ho, hb⟩

set_option maxHeartbeats 4000000 in
set_option maxRecDepth 100000 in
theorem list_any (p : Int → Bool) (w : World) :
    Calls Try.prog 50 #[.agg (bA p)] w fun e w' => ∃ u, e = .returned u ∧ Ow w' w.heap.size u (sL p) ∧ Below w.heap.size w w' := by
  have hb0 : Below w.heap.size w (w.alloc (.cells (bA p) 61)) := (Below.refl _ _).alloc (Nat.le_refl _) _
  have NI := Lib.hid (numbersIn_any w.heap.size p (w.alloc (.cells (bA p) 61)) (by simp) (fun j hj => by rw [cell_of_row _ _ _ _ _ _ (heap_alloc_new w _)]; exact bA_at p hj))
  obtain ⟨C, eC⟩ : ∃ C, bA p = C := ⟨_, rfl⟩
  rw [eC] at NI hb0 ⊢
  clear eC
  go_enter Try.func50, Try.ntmps50
  go_wp2_with (go_at_call 68; refine NI.out.mono ?_; rintro e w1 ⟨u, rfl, o1, b1⟩)
  have o1 := o1.mono hb0.size
  have b1 := nxt hb0 b1
  go_ret
  exact ⟨_, rfl, o1, b1⟩
end Go.Proofs.Ytmcbhpmkhbmlgaa
