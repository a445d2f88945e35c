/-
  Cards in the program: a card with numbers, its list, by their contracts. Condition: numbers of 0..127.
-/
import Derived.Test.YtgojlabkngnkdaaQar
import Derived.Test.YtgojlabkngnkdaaRis
namespace Go.Proofs.Ytgojlabkngnkdaa
open Go.RowKit

set_option maxHeartbeats 4000000 in
set_option maxRecDepth 100000 in
theorem numbersIn_any (g : Nat) (p : Int → Bool) (w : World) (hg : g < w.heap.size) (hc : ∀ j, j < 128 → w.cell? ⟨g, j, none⟩ = some (.bool (p (j : Int)))) :
    Calls Try.prog 72 #[.slice (some ⟨g, 0, none⟩) 128 128] w fun e w' => ∃ u, e = .returned u ∧ Ow w' w.heap.size u (sL p) ∧ Below w.heap.size w w' := by
  have HC := Lib.hid hc
  clear hc
  go_enter Try.func72, Try.ntmps72
  go_wp2
  have ho0 := ow_empty w
  have hb0 : Below w.heap.size w (w.alloc (.cells #[] 3)) := (Below.refl _ _).alloc (Nat.le_refl _) _
  go_loopw [3, 9] (fun a i wr => ∃ k : Nat, k ≤ 128 ∧ i = .int .i64 k ∧ Ow wr w.heap.size a (sLK p k) ∧ Below w.heap.size w wr) (fun _ i _ => 128 - (intOf i).toNat)
  case atStart => exact ⟨0, by omega, rfl, by rw [show sLK p 0 = [] from rfl]; exact ho0, hb0⟩
  case round =>
    clear ho0 hb0
    obtain ⟨k, hk, rfl, ho, hb⟩ := hrel
    have hsz := hb.size
    have hfl := sLK_len p k
    by_cases hlt : k < 128
    · have hcell := (hb.cell (p := ⟨g, k, none⟩) hg).trans (HC.out k hlt)
      have hk1 : (k : Int) < 128 := by omega
      by_cases h0 : p k = true
      · have FS := Lib.hid (sLK_yes h0)
        rw [h0] at hcell
        clear h0
        go_wp2_with (at_builtin; refine wpList_append_src rfl _ _ rfl w.heap.size _ (sLK p k) rfl (ho.alloc _) _ [(k : Int)] rfl (src_one _ _) (by simp only [List.length_cons, List.length_nil]; omega) (by simp; omega) ?_; intro v' w3 h3 g3)
        have b3 := (hb.alloc hsz _).trans ((ho.alloc _).grown (by simp; omega) g3)
        clear ho g3 hb
        go_roundw
        case rel => exact ⟨k + 1, by omega, by go_num, by rw [FS.out]; exact h3, b3⟩
        case measure => simp only [intOf]; omega
      · have h0 : p k = false := by simpa using h0
        have FS := Lib.hid (sLK_no h0)
        rw [h0] at hcell
        clear h0
        go_wp2
        go_roundw
        case rel => exact ⟨k + 1, by omega, by go_num, by rw [FS.out]; exact ho, hb⟩
        case measure => simp only [intOf]; omega
    · obtain rfl : k = 128 := by omega
      go_wp2
      go_ret
      exact ⟨_, rfl, ho, hb⟩

set_option maxHeartbeats 4000000 in
set_option maxRecDepth 100000 in
theorem list_any (p : Int → Bool) (w : World) :
    Calls Try.prog 64 #[.agg (bA p)] w fun e w' => ∃ u, e = .returned u ∧ Ow w' w.heap.size u (sL p) ∧ Below w.heap.size w w' := by
  have hb0 : Below w.heap.size w (w.alloc (.cells (bA p) 82)) := (Below.refl _ _).alloc (Nat.le_refl _) _
  have NI := Lib.hid (numbersIn_any w.heap.size p (w.alloc (.cells (bA p) 82)) (by simp) (fun j hj => by rw [cell_of_row _ _ _ _ _ _ (heap_alloc_new w _)]; exact bA_at p hj))
  obtain ⟨C, eC⟩ : ∃ C, bA p = C := ⟨_, rfl⟩
  rw [eC] at NI hb0 ⊢
  clear eC
  go_enter Try.func64, Try.ntmps64
  go_wp2_with (go_at_call 72; refine NI.out.mono ?_; rintro e w1 ⟨u, rfl, o1, b1⟩)
  have o1 := o1.mono hb0.size
  have b1 := nxt hb0 b1
  go_ret
  exact ⟨_, rfl, o1, b1⟩
end Go.Proofs.Ytgojlabkngnkdaa
