/-
  The laws' marks: a slice of the call's own is marked and its marks are found again; and a slice is appended to one of the call's own, whatever slice it is. Conditions: slices of at most 2^40 numbers.
-/
import Derived.Test.YtgojlabkngnkdaaDoorGood
import Derived.Laws.AppendOwnNone
import Derived.Deep.RegionLaw
import Derived.Lib.AppendZerosOnto
import Derived.Lib.Walk
namespace Go.Proofs.YtgojlabkngnkdaaDoor
open Go.RowKit

theorem grown_trans {w w1 w2 : World} {row : Option Nat} (h : w.grownBy w1 row) (k : w1.grownBy w2 row) : w.grownBy w2 row :=
  ⟨k.os.trans h.os, k.tape.trans h.tape, k.output.trans h.output, Nat.le_trans h.size k.size, fun i hi hne => (k.block i (Nat.lt_of_lt_of_le hi h.size) hne).trans (h.block i hi hne)⟩
theorem grown_refl (w : World) (row : Option Nat) : w.grownBy w row := ⟨rfl, rfl, rfl, Nat.le_refl _, fun _ _ _ => rfl⟩

/-- A list of n numbers whose first are k, k + 1, .. -/
def MarkTo (zs : List Int) (k : Int) (n j : Nat) : Prop := zs.length = n ∧ ∀ i, i < j → zs.getD i 0 = k + i
theorem MarkTo.set {zs : List Int} {k : Int} {n j : Nat} (h : MarkTo zs k n j) (hj : j < n) : MarkTo (zs.set j (k + j)) k n (j + 1) := by
  obtain ⟨h1, h2⟩ := h
  refine ⟨by simp [h1], fun i hi => ?_⟩
  rw [List.getD_eq_getElem?_getD, List.getElem?_set]
  by_cases e : j = i
  · subst e; simp [h1, hj]
  · rw [if_neg e, ← List.getD_eq_getElem?_getD]; exact h2 i (by omega)
theorem MarkTo.zero {zs : List Int} {k : Int} {n : Nat} (h : zs.length = n) : MarkTo zs k n 0 := ⟨h, fun i hi => by omega⟩

theorem Ow.set {w : World} {B g n cap : Nat} {zs : List Int} (h : Ow w B (.slice (some ⟨g, 0, none⟩) n cap) zs) (hn : zs.length = n) (j : Nat) (x : Int) :
    Ow (w.setCell ⟨g, j, none⟩ (.int .i64 x)) B (.slice (some ⟨g, 0, none⟩) n cap) (zs.set j x) ∧ w.grownBy (w.setCell ⟨g, j, none⟩ (.int .i64 x)) (some g) := by
  subst hn
  have R := World.ownsRow.stored h j (.int .i64 x)
  refine ⟨?_, R.2⟩
  have R1 := R.1
  unfold Ow
  rw [List.length_set, List.map_set]
  exact R1
theorem Ow.cellAt {w : World} {B g n cap : Nat} {zs : List Int} (h : Ow w B (.slice (some ⟨g, 0, none⟩) n cap) zs) (hn : zs.length = n) {j : Nat} (hj : j < n) : w.cell? ⟨g, j, none⟩ = some (.int .i64 (zs.getD j 0)) := by
  subst hn
  have R := World.ownsRow.cellAt h j (by omega)
  rw [R, List.getElem?_map, List.getElem?_eq_getElem hj, List.getD_eq_getElem?_getD, List.getElem?_eq_getElem hj]; rfl
theorem Ow.form {w : World} {B : Nat} {v : Value} {zs : List Int} (h : Ow w B v zs) : (v = .slice none 0 0 ∧ zs = []) ∨ ∃ g cap, v = .slice (some ⟨g, 0, none⟩) zs.length cap ∧ B ≤ g ∧ g < w.heap.size := by
  obtain ⟨_, h2⟩ := h
  rcases h2 with ⟨hv, hn⟩ | ⟨g, cap, cur, hv, hg, hh, _⟩
  · exact .inl ⟨hv, List.length_eq_zero_iff.1 hn⟩
  · exact .inr ⟨g, cap, hv, hg, (Array.getElem?_eq_some_iff.1 hh).1⟩

end Go.Proofs.YtgojlabkngnkdaaDoor
