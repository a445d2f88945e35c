/-
  Sets of lengths in the program: with a number more or less, and as a list again, by their contracts. Conditions: numbers of 0..60.
-/
import Derived.Test.YthienikceehcoaaUpb
namespace Go.Proofs.Ythienikceehcoaa
open Go.RowKit

theorem bA_at (p : Int → Bool) {j : Nat} (h : j < 61) : (bA p)[j]? = some (.bool (p (j : Int))) := arG_at _ h

set_option maxHeartbeats 4000000 in
set_option maxRecDepth 100000 in
theorem numbersIn_any (g : Nat) (p : Int → Bool) (w : World) (hg : g < w.heap.size) (hc : ∀ j, j < 61 → w.cell? ⟨g, j, none⟩ = some (.bool (p (j : Int)))) :
    Calls Try.prog 36 #[.slice (some ⟨g, 0, none⟩) 61 61] w fun e w' => ∃ u, e = .returned u ∧ Ow w' w.heap.size u (sL p) ∧ Below w.heap.size w w' := by
  have HC := Lib.hid hc
  clear hc
  go_enter Try.func36, Try.ntmps36
  go_wp2
  have ho0 := ow_empty w
  have hb0 : Below w.heap.size w (w.alloc (.cells #[] 3)) := (Below.refl _ _).alloc (Nat.le_refl _) _
  go_loopw [3, 9] (fun a i wr => ∃ k : Nat, k ≤ 61 ∧ i = .int .i64 k ∧ Ow wr w.heap.size a (sLK p k) ∧ Below w.heap.size w wr) (fun _ i _ => 61 - (intOf i).toNat)
  case atStart => exact ⟨0, by omega, rfl, by rw [show sLK p 0 = [] from rfl]; exact ho0, hb0⟩
  case round =>
    clear ho0 hb0
    obtain ⟨k, hk, rfl, ho, hb⟩ := hrel
    have hsz := hb.size
    have hfl := sLK_len p k
    by_cases hlt : k < 61
    · have hcell := (hb.cell (p := ⟨g, k, none⟩) hg).trans (HC.out k hlt)
      have hk1 : (k : Int) < 61 := by omega
      by_cases h0 : p k = true
      · have FS := Lib.hid (sLK_yes h0)
        rw [h0] at hcell
        clear h0
        go_wp2_with (at_builtin; refine wpList_append_src rfl _ _ rfl w.heap.size _ (sLK p k) rfl (ho.alloc _) _ [(k : Int)] rfl (src_one _ _) (by simp only [List.length_cons, List.length_nil]; omega) (by simp; omega) ?_; intro v' w3 h3 g3)
        have b3 := (hb.alloc hsz _).trans ((ho.alloc _).grown (by simp; omega) g3)
        clear ho g3 hb
        go_roundw
        case rel => exact ⟨k + 1, by omega, by go_num, by rw [FS.out]; exact h3, b3⟩
        case measure => simp only [intOf]; omega
      · have h0 : p k = false := by simpa using h0
        have FS := Lib.hid (sLK_no h0)
        rw [h0] at hcell
        clear h0
        go_wp2
        go_roundw
        case rel => exact ⟨k + 1, by omega, by go_num, by rw [FS.out]; exact ho, hb⟩
        case measure => simp only [intOf]; omega
    · obtain rfl : k = 61 := by omega
      go_wp2
      go_ret
      exact ⟨_, rfl, ho, hb⟩

set_option maxHeartbeats 4000000 in
set_option maxRecDepth 100000 in
theorem list_any (p : Int → Bool) (w : World) :
    Calls Try.prog 23 #[.agg (bA p)] w fun e w' => ∃ u, e = .returned u ∧ Ow w' w.heap.size u (sL p) ∧ Below w.heap.size w w' := by
  have hb0 : Below w.heap.size w (w.alloc (.cells (bA p) 33)) := (Below.refl _ _).alloc (Nat.le_refl _) _
  have NI := Lib.hid (numbersIn_any w.heap.size p (w.alloc (.cells (bA p) 33)) (by simp) (fun j hj => by rw [cell_of_row _ _ _ _ _ _ (heap_alloc_new w _)]; exact bA_at p hj))
  obtain ⟨C, eC⟩ : ∃ C, bA p = C := ⟨_, rfl⟩
  rw [eC] at NI hb0 ⊢
  clear eC
  go_enter Try.func23, Try.ntmps23
  go_wp2_with (go_at_call 36; refine NI.out.mono ?_; rintro e w1 ⟨u, rfl, o1, b1⟩)
  have o1 := o1.mono hb0.size
  have b1 := nxt hb0 b1
  go_ret
  exact ⟨_, rfl, o1, b1⟩
theorem bA_set (p : Int → Bool) {b : Bool} {d : Nat} (hd : d < 61) : (bA p).setIfInBounds d (.bool b) = bA fun x => if x = (d : Int) then b else p x := by
  refine arG_of (by rw [Array.size_setIfInBounds]; exact bA_size p) fun j hj => ?_
  rw [Array.getElem?_setIfInBounds]
  by_cases e : d = j
  · subst e
    rw [if_pos rfl, if_pos (by rw [bA_size]; exact hd)]
    simp
  · rw [if_neg e]
    have e2 : ¬ (j : Int) = (d : Int) := by omega
    simp only [e2, if_false]
    exact arG_at _ hj

set_option maxHeartbeats 4000000 in
set_option maxRecDepth 100000 in
theorem with_any (p : Int → Bool) (a : Int) (w : World) (h0 : 0 ≤ a) (h6 : a ≤ 60) :
    Calls Try.prog 29 #[.agg (bA p), .int .i64 a] w fun e w' => e = .returned (.agg (bA fun x => p x || (x == a))) ∧ Below w.heap.size w w' := by
  obtain ⟨d, rfl⟩ : ∃ d : Nat, a = d := ⟨a.toNat, by omega⟩
  have hb0 : ∀ C, Below w.heap.size w ((w.alloc (.cells C 33)).alloc (.cells litB 33)) := fun C => ((Below.refl _ _).alloc (Nat.le_refl _) _).alloc (by simp) _
  have hd0 : (0 : Int) ≤ (d : Int) := by omega
  have hd1 : (d : Int) < 61 := by omega
  have hCd : (bA p)[d]? = some (.bool (p (d : Int))) := arG_at _ (by omega)
  have SE := Lib.hid (bA_set p (b := true) (d := d) (by omega))
  have SE2 : Hid ((bA fun x => if x = (d : Int) then true else p x) = bA fun x => p x || (x == (d : Int))) := Lib.hid (bA_congr fun j _ => by
    by_cases e : (j : Int) = d
    · simp [e]
    · simp [e])
  obtain ⟨C, hC⟩ : ∃ C, (bA fun x => if x = (d : Int) then true else p x) = C := ⟨_, rfl⟩
  have HCs : Hid (C.size = 61) := Lib.hid (by rw [← hC]; exact bA_size _)
  have HCo : Hid (C.all (·.oneCell') = true) := Lib.hid (by rw [← hC]; exact bA_one _)
  rw [hC] at SE SE2
  have HS : Hid ((bA p).size = 61) := Lib.hid (bA_size p)
  obtain ⟨C0, eC0⟩ : ∃ C0, bA p = C0 := ⟨_, rfl⟩
  rw [eC0] at hCd SE HS ⊢
  obtain ⟨X, eX⟩ : ∃ X, p (d : Int) = X := ⟨_, rfl⟩
  rw [eX] at hCd
  clear hC eC0 eX
  go_enter Try.func29, Try.ntmps29
  go_wp2_with (first
    | (refine wpList_load_row rfl 33 _ rfl w.heap.size rfl 33 C (0, 0) _ (by rw [SE.out]; exact blk_a w _ _) Try.setU rfl (by rw [HCs.out]; exact Try.setI) ?_)
    | (refine wpList_store_row rfl 33 _ _ rfl (w.heap.size + 1) C rfl rfl 33 litB (by exact blk_b w _ _) (by rw [HCs.out]; exact Try.setI) (by rw [HCs.out]; rfl) HCo.out ?_))
  have hg2 := setRow_heap ((w.alloc (.cells (C0.setIfInBounds d (.bool true)) 33)).alloc (.cells litB 33)) (w.heap.size + 1) _ C _ _ (blk_b w _ _)
  refine bodyPost_ret (v := .agg C) ?_ rfl ⟨by rw [SE2.out], below_setRow (hb0 _) (by omega) C⟩
  exact results_cell_row rfl _ _ (w.heap.size + 1) _ C (0, 0) _ rfl hg2 Try.setU rfl (by rw [HCs.out]; exact Try.setI)

set_option maxHeartbeats 4000000 in
set_option maxRecDepth 100000 in
theorem without_any (p : Int → Bool) (a : Int) (w : World) (h0 : 0 ≤ a) (h6 : a ≤ 60) :
    Calls Try.prog 31 #[.agg (bA p), .int .i64 a] w fun e w' => e = .returned (.agg (bA fun x => p x && !(x == a))) ∧ Below w.heap.size w w' := by
  obtain ⟨d, rfl⟩ : ∃ d : Nat, a = d := ⟨a.toNat, by omega⟩
  have hb0 : ∀ C, Below w.heap.size w ((w.alloc (.cells C 33)).alloc (.cells litB 33)) := fun C => ((Below.refl _ _).alloc (Nat.le_refl _) _).alloc (by simp) _
  have hd0 : (0 : Int) ≤ (d : Int) := by omega
  have hd1 : (d : Int) < 61 := by omega
  have hCd : (bA p)[d]? = some (.bool (p (d : Int))) := arG_at _ (by omega)
  have SE := Lib.hid (bA_set p (b := false) (d := d) (by omega))
  have SE2 : Hid ((bA fun x => if x = (d : Int) then false else p x) = bA fun x => p x && !(x == (d : Int))) := Lib.hid (bA_congr fun j _ => by
    by_cases e : (j : Int) = d
    · simp [e]
    · simp [e])
  obtain ⟨C, hC⟩ : ∃ C, (bA fun x => if x = (d : Int) then false else p x) = C := ⟨_, rfl⟩
  have HCs : Hid (C.size = 61) := Lib.hid (by rw [← hC]; exact bA_size _)
  have HCo : Hid (C.all (·.oneCell') = true) := Lib.hid (by rw [← hC]; exact bA_one _)
  rw [hC] at SE SE2
  have HS : Hid ((bA p).size = 61) := Lib.hid (bA_size p)
  obtain ⟨C0, eC0⟩ : ∃ C0, bA p = C0 := ⟨_, rfl⟩
  rw [eC0] at hCd SE HS ⊢
  obtain ⟨X, eX⟩ : ∃ X, p (d : Int) = X := ⟨_, rfl⟩
  rw [eX] at hCd
  clear hC eC0 eX
  go_enter Try.func31, Try.ntmps31
  go_wp2_with (first
    | (refine wpList_load_row rfl 33 _ rfl w.heap.size rfl 33 C (0, 0) _ (by rw [SE.out]; exact blk_a w _ _) Try.setU rfl (by rw [HCs.out]; exact Try.setI) ?_)
    | (refine wpList_store_row rfl 33 _ _ rfl (w.heap.size + 1) C rfl rfl 33 litB (by exact blk_b w _ _) (by rw [HCs.out]; exact Try.setI) (by rw [HCs.out]; rfl) HCo.out ?_))
  have hg2 := setRow_heap ((w.alloc (.cells (C0.setIfInBounds d (.bool false)) 33)).alloc (.cells litB 33)) (w.heap.size + 1) _ C _ _ (blk_b w _ _)
  refine bodyPost_ret (v := .agg C) ?_ rfl ⟨by rw [SE2.out], below_setRow (hb0 _) (by omega) C⟩
  exact results_cell_row rfl _ _ (w.heap.size + 1) _ C (0, 0) _ rfl hg2 Try.setU rfl (by rw [HCs.out]; exact Try.setI)
end Go.Proofs.Ythienikceehcoaa
