/-
  The laws' marks: a slice of the call's own is marked and its marks are found again; and a slice is appended to one of the call's own, whatever slice it is. Conditions: slices of at most 2^40 numbers.
-/
import Derived.Test.YtgojlabkngnkdaaGode
import Derived.Laws.AppendOwnNone
import Derived.Deep.RegionLaw
import Derived.Lib.AppendZerosOnto
import Derived.Lib.Walk
namespace Go.Proofs.Ytgojlabkngnkdaa
open Go.RowKit

theorem grown_trans {w w1 w2 : World} {row : Option Nat} (h : w.grownBy w1 row) (k : w1.grownBy w2 row) : w.grownBy w2 row :=
  ⟨k.os.trans h.os, k.tape.trans h.tape, k.output.trans h.output, Nat.le_trans h.size k.size, fun i hi hne => (k.block i (Nat.lt_of_lt_of_le hi h.size) hne).trans (h.block i hi hne)⟩
theorem grown_refl (w : World) (row : Option Nat) : w.grownBy w row := ⟨rfl, rfl, rfl, Nat.le_refl _, fun _ _ _ => rfl⟩

/-- A list of n numbers whose first are k, k + 1, .. -/
def MarkTo (zs : List Int) (k : Int) (n j : Nat) : Prop := zs.length = n ∧ ∀ i, i < j → zs.getD i 0 = k + i
theorem MarkTo.set {zs : List Int} {k : Int} {n j : Nat} (h : MarkTo zs k n j) (hj : j < n) : MarkTo (zs.set j (k + j)) k n (j + 1) := by
  obtain ⟨h1, h2⟩ := h
  refine ⟨by simp [h1], fun i hi => ?_⟩
  rw [List.getD_eq_getElem?_getD, List.getElem?_set]
  by_cases e : j = i
  · subst e; simp [h1, hj]
  · rw [if_neg e, ← List.getD_eq_getElem?_getD]; exact h2 i (by omega)
theorem MarkTo.done {zs : List Int} {k : Int} {n j : Nat} (h : MarkTo zs k n j) (hj : ¬ j < n) : zs = marks k n := by
  obtain ⟨h1, h2⟩ := h
  apply List.ext_getElem?
  intro i
  by_cases hi : i < n
  · have := h2 i (by omega)
    rw [List.getD_eq_getElem?_getD] at this
    rw [List.getElem?_eq_getElem (by omega)] at this ⊢
    simp at this
    simp [marks, hi, this]
  · rw [List.getElem?_eq_none (by omega), List.getElem?_eq_none (by rw [marks_len]; omega)]
theorem MarkTo.zero {zs : List Int} {k : Int} {n : Nat} (h : zs.length = n) : MarkTo zs k n 0 := ⟨h, fun i hi => by omega⟩

theorem Ow.set {w : World} {B g n cap : Nat} {zs : List Int} (h : Ow w B (.slice (some ⟨g, 0, none⟩) n cap) zs) (hn : zs.length = n) (j : Nat) (x : Int) :
    Ow (w.setCell ⟨g, j, none⟩ (.int .i64 x)) B (.slice (some ⟨g, 0, none⟩) n cap) (zs.set j x) ∧ w.grownBy (w.setCell ⟨g, j, none⟩ (.int .i64 x)) (some g) := by
  subst hn
  have R := World.ownsRow.stored h j (.int .i64 x)
  refine ⟨?_, R.2⟩
  have R1 := R.1
  unfold Ow
  rw [List.length_set, List.map_set]
  exact R1
theorem Ow.cellAt {w : World} {B g n cap : Nat} {zs : List Int} (h : Ow w B (.slice (some ⟨g, 0, none⟩) n cap) zs) (hn : zs.length = n) {j : Nat} (hj : j < n) : w.cell? ⟨g, j, none⟩ = some (.int .i64 (zs.getD j 0)) := by
  subst hn
  have R := World.ownsRow.cellAt h j (by omega)
  rw [R, List.getElem?_map, List.getElem?_eq_getElem hj, List.getD_eq_getElem?_getD, List.getElem?_eq_getElem hj]; rfl
theorem Ow.frozenAt {w : World} {B g n cap : Nat} {zs : List Int} (h : Ow w B (.slice (some ⟨g, 0, none⟩) n cap) zs) (hn : zs.length = n) (j : Nat) : w.frozen? ⟨g, j, none⟩ = false := by
  subst hn
  exact World.ownsRow.frozenAt h j
theorem Ow.form {w : World} {B : Nat} {v : Value} {zs : List Int} (h : Ow w B v zs) : (v = .slice none 0 0 ∧ zs = []) ∨ ∃ g cap, v = .slice (some ⟨g, 0, none⟩) zs.length cap ∧ B ≤ g ∧ g < w.heap.size := by
  obtain ⟨_, h2⟩ := h
  rcases h2 with ⟨hv, hn⟩ | ⟨g, cap, cur, hv, hg, hh, _⟩
  · exact .inl ⟨hv, List.length_eq_zero_iff.1 hn⟩
  · exact .inr ⟨g, cap, hv, hg, (Array.getElem?_eq_some_iff.1 hh).1⟩

set_option maxHeartbeats 1000000 in
theorem markIntS_any (v : Value) (ys : List Int) (B : Nat) (k : Int) (w : World) (h : Ow w B v ys) (hl : ys.length ≤ 1099511627776) (hk0 : 0 ≤ k) (hk1 : k ≤ 1099511627776) :
    Calls Try.prog 30 #[v, .int .i64 k] w fun e w' => e = .returned (.int .i64 (k + ys.length)) ∧ Ow w' B v (marks k ys.length) ∧ w.grownBy w' v.ownBlock := by
  rcases h.form with ⟨rfl, rfl⟩ | ⟨g, cap, rfl, hBg, hgs⟩
  · go_enter Try.func30, Try.ntmps30
    go_wp2
    refine wp_loop_rounds 1 ?_
    rw [rounds_succ]
    go_wp2
    go_ret
    exact ⟨ret_int (by simp), h, grown_refl _ _⟩
  · obtain ⟨n, en⟩ : ∃ n, ys.length = n := ⟨_, rfl⟩
    rw [en] at hl
    rw [en] at h ⊢
    go_enter Try.func30, Try.ntmps30
    have EN := Lib.hid en
    clear en
    go_wp2
    go_loopw [1, 5] (fun t i wr => ∃ (j : Nat) (zs : List Int), j ≤ n ∧ i = .int .i64 j ∧ t = .int .i64 (k + j) ∧ MarkTo zs k n j ∧ Ow wr B (.slice (some ⟨g, 0, none⟩) n cap) zs ∧ w.grownBy wr (some g)) (fun _ i _ => n - (intOf i).toNat)
    case atStart => exact ⟨0, ys, Nat.zero_le _, rfl, by simp, MarkTo.zero EN.out, h, grown_refl _ _⟩
    case round =>
      obtain ⟨j, zs, hj, rfl, rfl, hm, ho, hgr⟩ := hrel
      by_cases hlt : j < n
      · have c1 := ho.cellAt hm.1 hlt
        have f1 := ho.frozenAt hm.1 j
        obtain ⟨x, ex⟩ : ∃ x, zs.getD j 0 = x := ⟨_, rfl⟩
        rw [ex] at c1
        clear ex
        go_wp2
        go_roundw
        case rel =>
          have R := ho.set hm.1 j (k + j)
          exact ⟨j + 1, zs.set j (k + j), by omega, by go_num, by go_num, hm.set hlt, R.1, grown_trans hgr R.2⟩
        case measure => simp [intOf]; omega
      · go_wp2
        go_ret
        have hz := hm.done hlt
        subst hz
        exact ⟨ret_int (by omega), ho, hgr⟩

set_option maxHeartbeats 1000000 in
theorem heldIntS_any (v : Value) (n : Nat) (k : Int) (w : World) (h : Sv w v (marks k n)) (hl : n ≤ 1099511627776) (hk0 : 0 ≤ k) (hk1 : k ≤ 1099511627776) :
    Calls Try.prog 31 #[v, .int .i64 k] w fun e w' => e = .returned (.int .i64 (k + n)) ∧ w = w' := by
  obtain ⟨p, cap, rfl, hx⟩ := h
  rw [marks_len] at hx ⊢
  go_enter Try.func31, Try.ntmps31
  go_wp2
  go_loop [1, 5] (fun t i => ∃ j : Nat, j ≤ n ∧ i = .int .i64 j ∧ t = .int .i64 (k + j)) (fun _ i => n - (intOf i).toNat)
  case atStart => exact ⟨0, Nat.zero_le _, rfl, by simp⟩
  case round =>
    obtain ⟨j, hj, rfl, rfl⟩ := hrel
    by_cases hlt : j < n
    · obtain ⟨b, off, rfl, hbl, hc⟩ := hx (by omega)
      have c1 := hc j hlt
      rw [marks_at k n j hlt] at c1
      clear hc hx
      go_wp2
      go_round
      case rel => exact ⟨j + 1, by omega, by go_num, by go_num⟩
      case measure => simp [intOf]; omega
    · clear hx
      go_wp2
      go_ret
      exact ⟨ret_int (by omega), rfl⟩

end Go.Proofs.Ytgojlabkngnkdaa
