/-
  A piece is put in, in the model and in the program, by their contracts. Conditions: none on the law but a length that fits int.
-/
import Derived.Test.YtkadmopnfmbedaaCatc
import Derived.BigRegion
namespace Go.Proofs.Ytkadmopnfmbedaa
open Go.RowKit

def insAt (xs : List Int) (n : Int) (k : Nat) : List Int := xs.take k ++ [n] ++ xs.drop k
structure Cut (xs : List Int) (n : Int) (k : Nat) : Prop where
  le : k ≤ xs.length
  lo : ∀ j, j < k → xs.getD j 0 ≤ n
  hi : ∀ j, k ≤ j → j < xs.length → n ≤ xs.getD j 0
theorem insAt_step {xs : List Int} {n : Int} {k : Nat} (h1 : Cut xs n k) (h2 : Cut xs n (k + 1)) : insAt xs n k = insAt xs n (k + 1) := by
  have hk : k < xs.length := by have := h2.le; omega
  have e : xs.getD k 0 = n := by have a := h1.hi k (by omega) hk; have b := h2.lo k (by omega); omega
  have e2 : xs.take (k + 1) = xs.take k ++ [n] := by
    rw [List.take_add_one, List.getElem?_eq_getElem hk]
    rw [List.getD_eq_getElem?_getD, List.getElem?_eq_getElem hk] at e
    have e' : xs[k] = n := by simpa using e
    rw [e']; rfl
  unfold insAt
  rw [drop_cons xs k hk, e, e2]
  simp
theorem insAt_eq {xs : List Int} {n : Int} : ∀ (d k : Nat), Cut xs n k → Cut xs n (k + d) → insAt xs n k = insAt xs n (k + d) := by
  intro d
  induction d with
  | zero => intro k _ _; rfl
  | succ d ih =>
    intro k h1 h2
    have h3 : Cut xs n (k + d) := ⟨by have := h2.le; omega, fun j hj => h2.lo j (by omega), fun j hj hl => h1.hi j (by omega) hl⟩
    rw [ih k h1 h3]
    exact insAt_step h3 h2
noncomputable def putL (xs : List Int) (n : Int) : List Int := @dite _ (∃ k, Cut xs n k) (Classical.propDecidable _) (fun h => insAt xs n h.choose) (fun _ => [])
theorem putL_eq {xs : List Int} {n : Int} {k : Nat} (h : Cut xs n k) : putL xs n = insAt xs n k := by
  have hex : ∃ k, Cut xs n k := ⟨k, h⟩
  unfold putL
  rw [dif_pos hex]
  have hc := hex.choose_spec
  by_cases hle : hex.choose ≤ k
  · have e := insAt_eq (k - hex.choose) hex.choose hc (by rw [show hex.choose + (k - hex.choose) = k by omega]; exact h)
    rw [e, show hex.choose + (k - hex.choose) = k by omega]
  · have e := insAt_eq (hex.choose - k) k h (by rw [show k + (hex.choose - k) = hex.choose by omega]; exact hc)
    rw [e, show k + (hex.choose - k) = hex.choose by omega]
def GtFrom (xs : List Int) (n : Int) (k : Nat) : Prop := ∀ j, k ≤ j → j < xs.length → n < xs.getD j 0
theorem GtFrom.step {xs : List Int} {n x : Int} {k : Nat} (h : GtFrom xs n (k + 1)) (hx : xs.getD k 0 = x) (hn : n < x) : GtFrom xs n k := by
  intro j hj hl
  by_cases e : j = k
  · subst e; rw [hx]; exact hn
  · exact h j (by omega) hl
theorem cut_of {xs : List Int} {n x : Int} {k : Nat} (hg : Good xs) (h : GtFrom xs n (k + 1)) (hk : k < xs.length) (hx : xs.getD k 0 = x) (hn : ¬ n < x) : Cut xs n (k + 1) :=
  ⟨by omega, fun j hj => by have := hg.le (show j ≤ k by omega) hk; omega, fun j hj hl => by have := h j hj hl; omega⟩
theorem cut_zero {xs : List Int} {n : Int} (h : GtFrom xs n 0) : Cut xs n 0 := ⟨Nat.zero_le _, fun j hj => by omega, fun j hj hl => by have := h j hj hl; omega⟩

theorem src_take {w : World} {b off c k : Nat} {xs : List Int} (hb : b < w.heap.size) (hc : ∀ j, j < xs.length → w.cell? ⟨b, off + j, none⟩ = some (.int .i64 (xs.getD j 0))) (hk : k ≤ xs.length) : Src w (.slice (some ⟨b, off, none⟩) k c) (xs.take k) := by
  have e : (xs.take k).length = k := by simp; omega
  refine .inr ⟨b, off, c, by rw [e], hb, fun j hj => ?_⟩
  rw [hc j (by omega), List.getD_eq_getElem?_getD, List.getD_eq_getElem?_getD, List.getElem?_take, if_pos (by omega)]
theorem src_drop {w : World} {b off c k : Nat} {xs : List Int} (hb : b < w.heap.size) (hc : ∀ j, j < xs.length → w.cell? ⟨b, off + j, none⟩ = some (.int .i64 (xs.getD j 0))) : Src w (.slice (some ⟨b, off + k, none⟩) (xs.length - k) c) (xs.drop k) := by
  have e : (xs.drop k).length = xs.length - k := by simp
  refine .inr ⟨b, off + k, c, by rw [e], hb, fun j hj => ?_⟩
  rw [Nat.add_assoc, hc (k + j) (by omega), List.getD_eq_getElem?_getD, List.getD_eq_getElem?_getD, List.getElem?_drop]
theorem src_end {w : World} {b off c k : Nat} {xs : List Int} (hb : b < w.heap.size) (hk : xs.length ≤ k) : Src w (.slice (some ⟨b, off, none⟩) (xs.length - k) c) (xs.drop k) := by
  have e : (xs.drop k).length = xs.length - k := by simp
  exact .inr ⟨b, off, c, by rw [e], hb, fun j hj => by omega⟩
theorem src_one (w : World) (n : Int) : Src (w.alloc (.cells #[.int .i64 n] 3)) (.slice (some ⟨w.heap.size, 0, none⟩) 1 1) [n] := by
  refine .inr ⟨w.heap.size, 0, 1, rfl, by simp, fun j hj => ?_⟩
  obtain rfl : j = 0 := by simpa using hj
  have h := heap_alloc_new w (.cells #[.int .i64 n] 3)
  simp only [World.cell?, h]
  rfl

set_option maxHeartbeats 4000000 in
set_option maxRecDepth 100000 in
theorem piPut_any (v : Value) (xs : List Int) (n : Int) (w : World) (h : Sp w v xs) (hg : Good xs) :
    Calls Try.prog 64 #[v, .int .i64 n] w fun e w' => ∃ u, e = .returned u ∧ Ow w' w.heap.size u (putL xs n) ∧ Below w.heap.size w w' := by
  have hl := hg.len
  obtain ⟨b, off, cap, rfl, hcap, hcm, hbl, hc⟩ := h
  have hcm : cap ≤ 9223372036854775807 := by unfold maxLen at hcm; exact hcm
  go_enter Try.func64, Try.ntmps64
  go_wp2
  go_loop [5] (fun a => ∃ k : Nat, k ≤ xs.length ∧ a = .int .i64 k ∧ GtFrom xs n k) (fun a => (intOf a).toNat)
  case atStart => exact ⟨xs.length, by omega, rfl, fun j hj hl => by omega⟩
  case round =>
    obtain ⟨k, hk, rfl, ha⟩ := hrel
    by_cases hk0 : k = 0
    · subst hk0
      have hcut := cut_zero ha
      have st := src_take (w := w) (b := b) (off := off) (c := cap) hbl hc (Nat.zero_le _)
      have sd : Src w (.slice (some ⟨b, off, none⟩) xs.length cap) (xs.drop 0) := by simpa using src_drop (w := w) (b := b) (off := off) (c := cap) (k := 0) hbl hc
      have PL := Lib.hid (putL_eq hcut)
      clear hc hcut
      go_wp2
      go_region_law (first
        | (go_simp; go_at_call 37; refine (l1Own_any _ (xs.take (0)) _ (by first | exact st.below ((Below.refl _ w).drew) (Nat.le_refl _) | exact st.below (((Below.refl _ w).alloc (Nat.le_refl _) _).drew) (Nat.le_refl _)) (by simp only [List.length_take]; omega)).mono ?_; rintro e w1 ⟨v1, rfl, o1, b1⟩; have O1 : Ow w1 w.heap.size v1 (xs.take (0)) := o1.mono (by simp); (first | (have S1 : Src w1 (.slice (some ⟨w.heap.size, 0, none⟩) 1 1) [n] := (src_one w n).below ((Below.refl _ _).drew.trans b1) (Nat.le_refl _)) | skip); have B1 : Below w.heap.size w w1 := (by first | exact (Below.refl _ w).drew.trans b1 | exact (((Below.refl _ w).alloc (Nat.le_refl _) _).drew).trans (b1.mono (by simp))); have Z1 := B1.size; clear o1 b1)
        | (refine step_append_src rfl (.tmp 24) (.tmp 26) rfl w.heap.size _ (xs.take (0)) rfl (by first | exact O1 | exact O1.alloc _) _ [n] rfl (by first | exact S1 | exact src_one _ _) (by simp only [List.length_take, List.length_cons, List.length_nil]; omega) (by first | exact Z1 | (simp; omega)) ?_; intro v2 w2 o2 g2; have B2 : Below w.heap.size w w2 := (by first | exact B1.trans (O1.grown Z1 g2) | exact (B1.alloc Z1 _).trans ((O1.alloc _).grown (by simp; omega) g2)); have Z2 := B2.size; have sd2 := sd.below B2 (Nat.le_refl _); clear O1 g2 B1 Z1)
        | (refine step_append_src rfl (.tmp 27) (.tmp 30) rfl w.heap.size _ (xs.take (0) ++ [n]) rfl o2 _ (xs.drop (0)) rfl sd2 (by simp only [List.length_append, List.length_take, List.length_drop, List.length_cons, List.length_nil]; omega) Z2 ?_; intro v3 w3 o3 g3; have B3 : Below w.heap.size w w3 := B2.trans (o2.grown Z2 g3); clear o2 g3 B2 sd2))
      all_goals
        go_wp2
        go_ret
        exact ⟨_, rfl, by rw [PL.out]; exact o3, B3⟩
    · obtain ⟨m, rfl⟩ : ∃ m, k = m + 1 := ⟨k - 1, by omega⟩
      have hcell := hc m (by omega)
      obtain ⟨x, ex⟩ : ∃ x, xs.getD m 0 = x := ⟨_, rfl⟩
      rw [ex] at hcell
      have EX := Lib.hid ex
      clear ex
      have HC := Lib.hid hc
      clear hc hk0
      have d1 : decide ((0 : Int) < (m : Int) + 1) = true := by simp only [decide_eq_true_eq]; omega
      by_cases hx : n < x
      · go_wp2
        go_round
        case rel => exact ⟨m, by omega, by go_num, ha.step EX.out hx⟩
        case measure => simp only [intOf]; omega
      · have hcut := cut_of hg ha (by omega) EX.out hx
        have st := src_take (w := w) (b := b) (off := off) (c := cap) hbl HC.out hk
        have PL := Lib.hid (putL_eq hcut)
        have hi0 : (0 : Int) ≤ (m : Int) + 1 := by omega
        have hi1 : (m : Int) + 1 ≤ (cap : Int) := by omega
        have hi2 : (m : Int) + 1 ≤ (xs.length : Int) := by omega
        by_cases hcc : cap = m + 1
        · subst hcc
          have sd := src_end (w := w) (b := b) (off := off) (c := 0) (k := m + 1) hbl hcap
          rw [show xs.length - (m + 1) = 0 by omega] at sd
          go_wp2
          go_region_law (first
            | (go_simp; go_at_call 37; refine (l1Own_any _ (xs.take (m + 1)) _ (by first | exact st.below ((Below.refl _ w).drew) (Nat.le_refl _) | exact st.below (((Below.refl _ w).alloc (Nat.le_refl _) _).drew) (Nat.le_refl _)) (by simp only [List.length_take]; omega)).mono ?_; rintro e w1 ⟨v1, rfl, o1, b1⟩; have O1 : Ow w1 w.heap.size v1 (xs.take (m + 1)) := o1.mono (by simp); (first | (have S1 : Src w1 (.slice (some ⟨w.heap.size, 0, none⟩) 1 1) [n] := (src_one w n).below ((Below.refl _ _).drew.trans b1) (Nat.le_refl _)) | skip); have B1 : Below w.heap.size w w1 := (by first | exact (Below.refl _ w).drew.trans b1 | exact (((Below.refl _ w).alloc (Nat.le_refl _) _).drew).trans (b1.mono (by simp))); have Z1 := B1.size; clear o1 b1)
            | (refine step_append_src rfl (.tmp 24) (.tmp 26) rfl w.heap.size _ (xs.take (m + 1)) rfl (by first | exact O1 | exact O1.alloc _) _ [n] rfl (by first | exact S1 | exact src_one _ _) (by simp only [List.length_take, List.length_cons, List.length_nil]; omega) (by first | exact Z1 | (simp; omega)) ?_; intro v2 w2 o2 g2; have B2 : Below w.heap.size w w2 := (by first | exact B1.trans (O1.grown Z1 g2) | exact (B1.alloc Z1 _).trans ((O1.alloc _).grown (by simp; omega) g2)); have Z2 := B2.size; have sd2 := sd.below B2 (Nat.le_refl _); clear O1 g2 B1 Z1)
            | (refine step_append_src rfl (.tmp 27) (.tmp 30) rfl w.heap.size _ (xs.take (m + 1) ++ [n]) rfl o2 _ (xs.drop (m + 1)) rfl sd2 (by simp only [List.length_append, List.length_take, List.length_drop, List.length_cons, List.length_nil]; omega) Z2 ?_; intro v3 w3 o3 g3; have B3 : Below w.heap.size w w3 := B2.trans (o2.grown Z2 g3); clear o2 g3 B2 sd2))
          all_goals
            go_wp2
            go_ret
            exact ⟨_, rfl, by rw [PL.out]; exact o3, B3⟩
        · have sd := src_drop (w := w) (b := b) (off := off) (c := cap - (m + 1)) (k := m + 1) hbl HC.out
          go_wp2
          go_region_law (first
            | (go_simp; go_at_call 37; refine (l1Own_any _ (xs.take (m + 1)) _ (by first | exact st.below ((Below.refl _ w).drew) (Nat.le_refl _) | exact st.below (((Below.refl _ w).alloc (Nat.le_refl _) _).drew) (Nat.le_refl _)) (by simp only [List.length_take]; omega)).mono ?_; rintro e w1 ⟨v1, rfl, o1, b1⟩; have O1 : Ow w1 w.heap.size v1 (xs.take (m + 1)) := o1.mono (by simp); (first | (have S1 : Src w1 (.slice (some ⟨w.heap.size, 0, none⟩) 1 1) [n] := (src_one w n).below ((Below.refl _ _).drew.trans b1) (Nat.le_refl _)) | skip); have B1 : Below w.heap.size w w1 := (by first | exact (Below.refl _ w).drew.trans b1 | exact (((Below.refl _ w).alloc (Nat.le_refl _) _).drew).trans (b1.mono (by simp))); have Z1 := B1.size; clear o1 b1)
            | (refine step_append_src rfl (.tmp 24) (.tmp 26) rfl w.heap.size _ (xs.take (m + 1)) rfl (by first | exact O1 | exact O1.alloc _) _ [n] rfl (by first | exact S1 | exact src_one _ _) (by simp only [List.length_take, List.length_cons, List.length_nil]; omega) (by first | exact Z1 | (simp; omega)) ?_; intro v2 w2 o2 g2; have B2 : Below w.heap.size w w2 := (by first | exact B1.trans (O1.grown Z1 g2) | exact (B1.alloc Z1 _).trans ((O1.alloc _).grown (by simp; omega) g2)); have Z2 := B2.size; have sd2 := sd.below B2 (Nat.le_refl _); clear O1 g2 B1 Z1)
            | (refine step_append_src rfl (.tmp 27) (.tmp 30) rfl w.heap.size _ (xs.take (m + 1) ++ [n]) rfl o2 _ (xs.drop (m + 1)) rfl sd2 (by simp only [List.length_append, List.length_take, List.length_drop, List.length_cons, List.length_nil]; omega) Z2 ?_; intro v3 w3 o3 g3; have B3 : Below w.heap.size w w3 := B2.trans (o2.grown Z2 g3); clear o2 g3 B2 sd2))
          all_goals
            go_wp2
            go_ret
            exact ⟨_, rfl, by rw [PL.out]; exact o3, B3⟩

end Go.Proofs.Ytkadmopnfmbedaa
