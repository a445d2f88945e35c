/-
  The parts of a chain, in the program's array and in the model's list, by their contracts. Conditions: cuts of a chain.
-/
import Derived.Test.YtkadmopnfmbedaaCut
import Derived.Test.YtkadmopnfmbedaaPutd
import Derived.Test.YtkadmopnfmbedaaCmore
import Derived.Deep.WholeRow
namespace Go.Proofs.Ytkadmopnfmbedaa
open Go.RowKit

theorem Try.arrU : Try.prog.underlying 43 = some (.array 19 3) := by kernel_rfl
theorem Try.arrI : (Try.prog.info? 43).map (·.size) = some 19 := by kernel_rfl

def arrV (xs : List Int) : Array Value := (xs.map (Value.int .i64)).toArray
theorem arrV_size (xs : List Int) : (arrV xs).size = xs.length := by simp [arrV]
theorem arrV_at {xs : List Int} {k : Nat} (h : k < xs.length) : (arrV xs)[k]? = some (.int .i64 (xs.getD k 0)) := by
  simp [arrV, List.getD_eq_getElem?_getD, List.getElem?_eq_getElem h]
theorem idx_run {C : Array Value} {xs : List Int} (hC : C = arrV xs) (hl : xs.length = 19) {k : Nat} (hk : k < 19) (w : World) :
    (Instr.index 43 (.agg C) (.int .i64 (k : Int))).run Try.prog w = .ok (.int .i64 (xs.getD k 0)) w := by
  have h1 : C[k]? = some (.int .i64 (xs.getD k 0)) := by rw [hC]; exact arrV_at (by omega)
  have h2 : (0 : Int) ≤ (k : Int) ∧ (k : Int) < ((19 : Nat) : Int) := by omega
  simp [Instr.index, run_underlying Try.arrU, asIntOf, h2, h1, go_sem]
  intro h; omega

theorem filter_step (xs : List Int) (k : Nat) (h : k < xs.length) : (xs.take (k + 1)).filter posB = (xs.take k).filter posB ++ (if posB (xs.getD k 0) = true then [xs.getD k 0] else []) := by
  rw [List.take_add_one, List.getElem?_eq_getElem h, List.getD_eq_getElem?_getD, List.getElem?_eq_getElem h, List.filter_append]
  simp [List.filter_cons]
theorem filter_yes {xs : List Int} {k : Nat} {x : Int} (h : k < xs.length) (hx : xs.getD k 0 = x) (h0 : 0 < x) : (xs.take (k + 1)).filter posB = (xs.take k).filter posB ++ [x] := by
  rw [filter_step xs k h, hx, if_pos (by simp [posB]; exact h0)]
theorem filter_no {xs : List Int} {k : Nat} {x : Int} (h : k < xs.length) (hx : xs.getD k 0 = x) (h0 : ¬ 0 < x) : (xs.take (k + 1)).filter posB = (xs.take k).filter posB := by
  rw [filter_step xs k h, hx, if_neg (by simp [posB]; omega), List.append_nil]
theorem filter_le (xs : List Int) (k : Nat) : ((xs.take k).filter posB).length ≤ k := by
  have := List.length_filter_le posB (xs.take k); rw [List.length_take] at this; omega

set_option maxHeartbeats 2000000 in
set_option maxRecDepth 100000 in
theorem inOrder_any (C : Array Value) (xs : List Int) (w : World) (hC : C = arrV xs) (hl : xs.length = 19) :
    Calls Try.prog 56 #[.agg C] w fun e w' => ∃ u, e = .returned u ∧ Ow w' w.heap.size u (xs.filter posB) ∧ Below w.heap.size w w' := by
  have HC := Lib.hid hC
  have HL := Lib.hid hl
  have hcs : C.size = 19 := by rw [hC, arrV_size, hl]
  have HS := Lib.hid hcs
  clear hcs hC hl
  go_enter Try.func56, Try.ntmps56
  go_wp2_with (refine wpList_load_row rfl 43 _ rfl w.heap.size rfl 43 C (0, 0) _ (by exact blk_a w _ _) Try.arrU rfl (by rw [HS.out]; exact Try.arrI) ?_)
  have ho0 := ow_empty (w.alloc (.cells C 43))
  have hb0 : Below w.heap.size w ((w.alloc (.cells C 43)).alloc (.cells #[] 3)) := ((Below.refl _ _).alloc (Nat.le_refl _) _).alloc (by simp) _
  simp only [World.size_alloc] at ho0
  go_loopw [3, 8] (fun a i wr => ∃ k : Nat, k ≤ 19 ∧ i = .int .i64 k ∧ Ow wr w.heap.size a ((xs.take k).filter posB) ∧ Below w.heap.size w wr) (fun _ i _ => 19 - (intOf i).toNat)
  case atStart => exact ⟨0, by omega, rfl, by simpa using ho0.mono (by omega), hb0⟩
  case round =>
    clear ho0 hb0
    obtain ⟨k, hk, rfl, ho, hb⟩ := hrel
    have hsz := hb.size
    have hfl := filter_le xs k
    by_cases hlt : k < 19
    · have hix := idx_run HC.out HL.out hlt
      obtain ⟨x, ex⟩ : ∃ x, xs.getD k 0 = x := ⟨_, rfl⟩
      rw [ex] at hix
      have EX := Lib.hid ex
      clear ex
      by_cases h0 : 0 < x
      · have FS := Lib.hid (filter_yes (by rw [HL.out]; exact hlt) EX.out h0)
        go_wp2_with (at_builtin; refine wpList_append_src rfl _ _ rfl w.heap.size _ ((xs.take k).filter posB) rfl (ho.alloc _) _ [x] rfl (src_one _ _) (by simp only [List.length_cons, List.length_nil]; omega) (by simp; omega) ?_; intro v' w3 h3 g3)
        have b3 := (hb.alloc hsz _).trans ((ho.alloc _).grown (by simp; omega) g3)
        clear ho g3 hb
        go_roundw
        case rel => exact ⟨k + 1, by omega, by go_num, by rw [FS.out]; exact h3, b3⟩
        case measure => simp only [intOf]; omega
      · have FS := Lib.hid (filter_no (by rw [HL.out]; exact hlt) EX.out h0)
        go_wp2
        go_roundw
        case rel => exact ⟨k + 1, by omega, by go_num, by rw [FS.out]; exact ho, hb⟩
        case measure => simp only [intOf]; omega
    · go_wp2
      go_ret
      have e : xs.take k = xs := List.take_of_length_le (by rw [HL.out]; omega)
      rw [e] at ho
      exact ⟨_, rfl, ho, hb⟩
end Go.Proofs.Ytkadmopnfmbedaa
