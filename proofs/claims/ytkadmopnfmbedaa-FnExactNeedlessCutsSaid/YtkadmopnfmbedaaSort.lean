/-
  A slice of the call's own is sorted by the library; the model's sorted insertion; the pieces of a chain, shortest first, in the model and in the program, by their contracts. Conditions: at most 20 pieces, each 1..10000.
-/
import Derived.Test.YtkadmopnfmbedaaPart
import Derived.Test.YtkadmopnfmbedaaCput
import Derived.Test.YtkadmopnfmbedaaShelf
import Derived.Sort.OwnSortedInts
namespace Go.Proofs.Ytkadmopnfmbedaa
open Go.RowKit Go.Sort

theorem Ow.sp_ne {w : World} {B : Nat} {v : Value} {ys : List Int} (h : Ow w B v ys) (hn : ys ≠ []) : Sp w v ys := by
  rcases h.form with ⟨_, rfl⟩ | ⟨g, cap, rfl, _, _⟩
  · exact absurd rfl hn
  · exact h.sp (b := g) rfl
theorem sort_own (v : Value) (ys : List Int) (B : Nat) (w : World) (h : Ow w B v ys) (hn : ys ≠ []) (hl : ys.length ≤ 1099511627776) :
    Calls Try.prog 57 #[v] w fun e w' => e = .returned (.tuple #[]) ∧ Ow w' B v (sortL ys) ∧ w.grownBy w' v.ownBlock := by
  obtain ⟨_, h2⟩ := h
  rcases h2 with ⟨rfl, h0⟩ | ⟨g, cap, cur, rfl, hg, hh, hnc, hcm, hcs, htake⟩
  · exact absurd (List.length_eq_zero_iff.1 h0) hn
  · have ht : cur.toList.take ys.length = ys.map (Value.int .i64) := by simpa using htake
    refine (Try.slices_Sort_int g 0 cap ys w (holds_of_blockI hh ht) (Array.getElem?_eq_some_iff.1 hh).1 (by omega)).mono ?_
    rintro e w' ⟨rfl, n, os, rfl⟩
    refine ⟨rfl, ?_, grownBy_sortedI _⟩
    have R := ownsRow_sortedI (w := w) (n := n) (os := os) (ss := ys) (ts := sortL ys) (e := 3) (sortL_len ys) hg hh hnc hcm hcs
    unfold Ow
    rw [sortL_len]
    exact R

set_option maxHeartbeats 4000000 in
set_option maxRecDepth 100000 in
theorem piPut_nil (n : Int) (w : World) :
    Calls Try.prog 64 #[.slice none 0 0, .int .i64 n] w fun e w' => ∃ u, e = .returned u ∧ Ow w' w.heap.size u [n] ∧ Below w.heap.size w w' := by
  go_enter Try.func64, Try.ntmps64
  go_wp2
  go_loop [5] (fun a => a = .int .i64 0) (fun a => (intOf a).toNat)
  case atStart => rfl
  case round =>
    obtain rfl := hrel
    have st : Src w (.slice none 0 0) [] := .inl ⟨rfl, rfl⟩
    go_wp2
    go_region_law (first
      | (go_simp; go_at_call 37; refine (l1Own_any _ [] _ (by first | exact st.below ((Below.refl _ w).drew) (Nat.le_refl _) | exact st.below (((Below.refl _ w).alloc (Nat.le_refl _) _).drew) (Nat.le_refl _)) (by simp)).mono ?_; rintro e w1 ⟨v1, rfl, o1, b1⟩; have O1 : Ow w1 w.heap.size v1 [] := o1.mono (by simp); (first | (have S1 : Src w1 (.slice (some ⟨w.heap.size, 0, none⟩) 1 1) [n] := (src_one w n).below ((Below.refl _ _).drew.trans b1) (Nat.le_refl _)) | skip); have B1 : Below w.heap.size w w1 := (by first | exact (Below.refl _ w).drew.trans b1 | exact (((Below.refl _ w).alloc (Nat.le_refl _) _).drew).trans (b1.mono (by simp))); have Z1 := B1.size; clear o1 b1)
      | (refine step_append_src rfl (.tmp 24) (.tmp 26) rfl w.heap.size _ [] rfl (by first | exact O1 | exact O1.alloc _) _ [n] rfl (by first | exact S1 | exact src_one _ _) (by simp only [List.length_cons, List.length_nil]; omega) (by first | exact Z1 | (simp; omega)) ?_; intro v2 w2 o2 g2; have B2 : Below w.heap.size w w2 := (by first | exact B1.trans (O1.grown Z1 g2) | exact (B1.alloc Z1 _).trans ((O1.alloc _).grown (by simp; omega) g2)); have Z2 := B2.size; have sd2 : Src w2 (.slice none 0 0) [] := .inl ⟨rfl, rfl⟩; clear O1 g2 B1 Z1)
      | (refine step_append_src rfl (.tmp 27) (.tmp 30) rfl w.heap.size _ ([] ++ [n]) rfl o2 _ [] rfl sd2 (by simp only [List.length_append, List.length_cons, List.length_nil]; omega) Z2 ?_; intro v3 w3 o3 g3; have B3 : Below w.heap.size w w3 := B2.trans (o2.grown Z2 g3); clear o2 g3 B2 sd2))
    all_goals
      go_wp2
      go_ret
      exact ⟨_, rfl, by have h := o3; simp only [List.nil_append, List.append_nil] at h; exact h, B3⟩

set_option maxHeartbeats 4000000 in
theorem chSorted_any (v : Value) (xs : List Int) (w : World) (h : Sv w v xs) (h20 : xs.length ≤ 20) (hb : ∀ x ∈ xs, 1 ≤ x ∧ x ≤ 10000) :
    Calls Try.prog 52 #[v] w fun e w' => ∃ u, e = .returned u ∧ Ow w' w.heap.size u (sortL xs) ∧ Below w.heap.size w w' := by
  have HB := Lib.hid hb
  clear hb
  obtain ⟨p, cap, rfl, hx⟩ := h
  go_enter Try.func52, Try.ntmps52
  go_wp2
  go_loopw [3, 8] (fun a i wr => ∃ k : Nat, k ≤ xs.length ∧ i = .int .i64 k ∧ (k = 0 → a = .slice none 0 0) ∧ Ow wr w.heap.size a (sortL (xs.take k)) ∧ Below w.heap.size w wr) (fun _ i _ => xs.length - (intOf i).toNat)
  case atStart => exact ⟨0, Nat.zero_le _, rfl, fun _ => rfl, by simpa [sortL] using ow_nil w w.heap.size, Below.refl _ _⟩
  case round =>
    obtain ⟨k, hk, rfl, h0, ho, hbw⟩ := hrel
    have hsz := hbw.size
    by_cases hlt : k < xs.length
    · obtain ⟨b, off, rfl, hbl, hcl⟩ := hx (by omega)
      have hcell := (hbw.cell (p := ⟨b, off + k, none⟩) hbl).trans (hcl k hlt)
      obtain ⟨x, ex⟩ : ∃ x, xs.getD k 0 = x := ⟨_, rfl⟩
      rw [ex] at hcell
      have EX := Lib.hid ex
      clear ex hcl hx
      have ST := Lib.hid (sortL_step xs k hlt)
      by_cases hk0 : k = 0
      · have e0 := h0 hk0
        subst e0
        have e1 : (sortL (xs.take (k + 1))) = [x] := by
          have e2 : xs.take k = [] := by rw [hk0]; rfl
          rw [← ST.out, EX.out, putL_sort, e2]
          simp [sortL]
        have E1 := Lib.hid e1
        clear e1 h0 ho hk0
        go_wp2_with fail
        refine (piPut_nil x _).mono ?_
        rintro e w2 ⟨u2, rfl, o2, b2⟩
        have o3 := o2.mono hsz
        have b3 := hbw.trans (b2.mono hsz)
        clear o2 b2 hbw
        go_wp2_with fail
        go_roundw
        case rel => exact ⟨k + 1, by omega, by go_num, fun h => by omega, by rw [E1.out]; exact o3, b3⟩
        case measure => simp only [intOf]; omega
      · have hg := good_take h20 HB.out k
        have hsp : Sp wr _ (sortL (xs.take k)) := ho.sp_ne (by
          intro e
          have := sortL_len (xs.take k)
          rw [e, List.length_take] at this
          simp at this; omega)
        clear h0 ho hk0
        go_wp2_with fail
        refine (piPut_any _ _ x _ hsp hg).mono ?_
        rintro e w2 ⟨u2, rfl, o2, b2⟩
        have o3 := o2.mono hsz
        have b3 := hbw.trans (b2.mono hsz)
        clear o2 b2 hbw hsp
        go_wp2_with fail
        go_roundw
        case rel => exact ⟨k + 1, by omega, by go_num, fun h => by omega, by rw [← ST.out, EX.out]; exact o3, b3⟩
        case measure => simp only [intOf]; omega
    · clear hx h0
      go_wp2
      go_ret
      have e : xs.take k = xs := List.take_of_length_le (by omega)
      rw [e] at ho
      exact ⟨_, rfl, ho, hbw⟩

set_option maxHeartbeats 4000000 in
theorem chPieces_any (m : Int) (v : Value) (xs : List Int) (w : World) (h : Sv w v xs) (hc : CutsOk m xs) :
    Calls Try.prog 29 #[.int .i64 m, v] w fun e w' => ∃ u, e = .returned u ∧ Ow w' w.heap.size u (pcsP m xs) ∧ Below w.heap.size w w' := by
  have h1 := hc.parts_len
  have HB := Lib.hid hc.parts
  go_enter Try.func29, Try.ntmps29
  go_wp2_with fail
  refine (chParts_any _ _ _ _ h hc).mono ?_
  rintro e w1 ⟨u1, rfl, o1, b1⟩
  have z1 := b1.size
  go_wp2_with fail
  refine (chSorted_any _ _ _ o1.sv (by omega) (fun x hx => by have := HB.out x hx; omega)).mono ?_
  rintro e w2 ⟨u2, rfl, o2, b2⟩
  have b3 := nxt b1 b2
  clear b1 b2 o1
  go_wp2_with fail
  go_ret
  exact ⟨_, rfl, o2.mono z1, b3⟩

set_option maxHeartbeats 4000000 in
theorem pieces_any (C : Array Value) (ys : List Int) (w : World) (hC : C = arrV ys) (hl : ys.length = 19) (hn : ys.filter posB ≠ []) :
    Calls Try.prog 32 #[.agg C] w fun e w' => ∃ u, e = .returned u ∧ Ow w' w.heap.size u (sortL (ys.filter posB)) ∧ Below w.heap.size w w' := by
  have HC := Lib.hid hC
  have HL := Lib.hid hl
  have HN := Lib.hid hn
  have hfl : (ys.filter posB).length ≤ 19 := by have := List.length_filter_le posB ys; omega
  have hcs : C.size = 19 := by rw [hC, arrV_size, hl]
  have HS := Lib.hid hcs
  clear hcs hC hl hn
  go_enter Try.func32, Try.ntmps32
  go_wp2_with (refine wpList_load_row rfl 43 _ rfl w.heap.size rfl 43 C (0, 0) _ (by exact heap_alloc_new w _) Try.arrU rfl (by rw [HS.out]; exact Try.arrI) ?_)
  have hb0 : Below w.heap.size w (w.alloc (.cells C 43)) := (Below.refl _ _).alloc (Nat.le_refl _) _
  have z0 := hb0.size
  refine (inOrder_any _ _ _ HC.out HL.out).mono ?_
  rintro e w1 ⟨u1, rfl, o1, b1⟩
  have o1 := o1.mono z0
  have b1 := hb0.trans (b1.mono z0)
  have z1 := b1.size
  clear hb0
  go_wp2_with fail
  refine (sort_own _ _ _ _ o1 HN.out (by omega)).mono ?_
  rintro e w2 ⟨rfl, o2, g2⟩
  have b2 := b1.trans (o1.grown z1 g2)
  clear b1 o1 g2
  go_wp2_with fail
  go_ret
  exact ⟨_, rfl, o2, b2⟩
theorem CutsOk.parts_ne {m : Int} {xs : List Int} (h : CutsOk m xs) : partsP m xs ≠ [] := by
  intro e
  have := h.parts_sum
  rw [e] at this
  simp [sumL] at this
  have := h.1
  omega
theorem sv_of_cells {w : World} {x : Addr} {len cap : Nat} {zs : List Int} (hl : len ≤ cap) (hz : zs.length = cap) (hcell : ∀ i, i < zs.length → w.cell? (x.add i) = some (.int .i64 (zs.getD i 0))) :
    (zs.take len).length = len ∧ Sv w (.slice (some x) len cap) (zs.take len) := by
  have e : (zs.take len).length = len := by simp; omega
  refine ⟨e, some x, cap, by rw [e], fun h0 => ?_⟩
  obtain ⟨b, off, spot⟩ := x
  have hc := hcell 0 (by omega)
  have hspot : spot = none := by simpa [Addr.add] using World.cell?_spot hc
  subst hspot
  have hb : b < w.heap.size := by simpa [Addr.add] using World.block_lt_of_cell? _ _ hc
  refine ⟨b, off, rfl, hb, fun j hj => ?_⟩
  have h2 := hcell j (by omega)
  have e2 : (zs.take len).getD j 0 = zs.getD j 0 := by
    rw [List.getD_eq_getElem?_getD, List.getD_eq_getElem?_getD, List.getElem?_take, if_pos (by omega)]
  rw [e2, ← h2]
  by_cases e0 : j = 0
  · subst e0; simp [Addr.add]
  · simp [Addr.add, e0]
theorem sv_nil (w : World) : Sv w (.slice none 0 0) [] := ⟨none, 0, rfl, fun h => by simp at h⟩

end Go.Proofs.Ytkadmopnfmbedaa
