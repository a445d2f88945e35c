/-
  A slice of the call's own is sorted by the library; a piece is put into no pieces. Conditions: each theorem's own premises.
-/
import Derived.Test.YtggmmllnpiabnaaPcp
import Derived.Test.YtggmmllnpiabnaaShelf
import Derived.Sort.OwnSortedInts
namespace Go.Proofs.Ytggmmllnpiabnaa
open Go.RowKit Go.Sort

theorem Ow.sp_ne {w : World} {B : Nat} {v : Value} {ys : List Int} (h : Ow w B v ys) (hn : ys ≠ []) : Sp w v ys := by
  rcases h.form with ⟨_, rfl⟩ | ⟨g, cap, rfl, _, _⟩
  · exact absurd rfl hn
  · exact h.sp (b := g) rfl
theorem sort_own (v : Value) (ys : List Int) (B : Nat) (w : World) (h : Ow w B v ys) (hn : ys ≠ []) (hl : ys.length ≤ 1099511627776) :
    Calls Try.prog 81 #[v] w fun e w' => e = .returned (.tuple #[]) ∧ Ow w' B v (sortL ys) ∧ w.grownBy w' v.ownBlock := by
  obtain ⟨_, h2⟩ := h
  rcases h2 with ⟨rfl, h0⟩ | ⟨g, cap, cur, rfl, hg, hh, hnc, hcm, hcs, htake⟩
  · exact absurd (List.length_eq_zero_iff.1 h0) hn
  · have ht : cur.toList.take ys.length = ys.map (Value.int .i64) := by simpa using htake
    refine (Try.slices_Sort_int g 0 cap ys w (holds_of_blockI hh ht) (Array.getElem?_eq_some_iff.1 hh).1 (by omega)).mono ?_
    rintro e w' ⟨rfl, n, os, rfl⟩
    refine ⟨rfl, ?_, grownBy_sortedI _⟩
    have R := ownsRow_sortedI (w := w) (n := n) (os := os) (ss := ys) (ts := sortL ys) (e := 3) (sortL_len ys) hg hh hnc hcm hcs
    unfold Ow
    rw [sortL_len]
    exact R

set_option maxHeartbeats 4000000 in
set_option maxRecDepth 100000 in
theorem piPut_nil (n : Int) (w : World) :
    Calls Try.prog 79 #[.slice none 0 0, .int .i64 n] w fun e w' => ∃ u, e = .returned u ∧ Ow w' w.heap.size u [n] ∧ Below w.heap.size w w' := by
  go_enter Try.func79, Try.ntmps79
  go_wp2
  go_loop [5] (fun a => a = .int .i64 0) (fun a => (intOf a).toNat)
  case atStart => rfl
  case round =>
    obtain rfl := hrel
    have st : Src w (.slice none 0 0) [] := .inl ⟨rfl, rfl⟩
    go_wp2
    go_region_law (first
      | (go_simp; go_at_call 98; refine (l1Own_any _ [] _ (by first | exact st.below ((Below.refl _ w).drew) (Nat.le_refl _) | exact st.below (((Below.refl _ w).alloc (Nat.le_refl _) _).drew) (Nat.le_refl _)) (by simp)).mono ?_; rintro e w1 ⟨v1, rfl, o1, b1⟩; have O1 : Ow w1 w.heap.size v1 [] := o1.mono (by simp); (first | (have S1 : Src w1 (.slice (some ⟨w.heap.size, 0, none⟩) 1 1) [n] := (src_one w n).below ((Below.refl _ _).drew.trans b1) (Nat.le_refl _)) | skip); have B1 : Below w.heap.size w w1 := (by first | exact (Below.refl _ w).drew.trans b1 | exact (((Below.refl _ w).alloc (Nat.le_refl _) _).drew).trans (b1.mono (by simp))); have Z1 := B1.size; clear o1 b1)
      | (refine step_append_src rfl (.tmp 24) (.tmp 26) rfl w.heap.size _ [] rfl (by first | exact O1 | exact O1.alloc _) _ [n] rfl (by first | exact S1 | exact src_one _ _) (by simp only [List.length_cons, List.length_nil]; omega) (by first | exact Z1 | (simp; omega)) ?_; intro v2 w2 o2 g2; have B2 : Below w.heap.size w w2 := (by first | exact B1.trans (O1.grown Z1 g2) | exact (B1.alloc Z1 _).trans ((O1.alloc _).grown (by simp; omega) g2)); have Z2 := B2.size; have sd2 : Src w2 (.slice none 0 0) [] := .inl ⟨rfl, rfl⟩; clear O1 g2 B1 Z1)
      | (refine step_append_src rfl (.tmp 27) (.tmp 30) rfl w.heap.size _ ([] ++ [n]) rfl o2 _ [] rfl sd2 (by simp only [List.length_append, List.length_cons, List.length_nil]; omega) Z2 ?_; intro v3 w3 o3 g3; have B3 : Below w.heap.size w w3 := B2.trans (o2.grown Z2 g3); clear o2 g3 B2 sd2))
    all_goals
      go_wp2
      go_ret
      exact ⟨_, rfl, by have h := o3; simp only [List.nil_append, List.append_nil] at h; exact h, B3⟩


end Go.Proofs.Ytggmmllnpiabnaa
