/-
  A slice of slices that came in reads as lists. No condition.
-/
import Derived.Test.YtgojlabkngnkdaaDoorPsl4
import Derived.Deep.Matrix
namespace Go.Proofs.YtgojlabkngnkdaaDoor
open Go.RowKit

theorem add_off {_w : World} {b off : Nat} (r : Nat) : (⟨b, off, none⟩ : Addr).add r = ⟨b, off + r, none⟩ := by
  by_cases e : r = 0
  · subst e; simp [Addr.add]
  · simp [Addr.add, e]
theorem svv_of_rows {w : World} {x : Addr} {l c : Nat} {A : Nat → Option Addr} {L C : Nat → Nat} {Z : Nat → List Int} (hl : l ≤ c)
    (h : ∀ r, r < c → w.cell? (x.add r) = some (.slice (A r) (L r) (C r)) ∧ L r ≤ C r ∧ C r ≤ maxLen ∧ (Z r).length = C r ∧ (A r = none → C r = 0) ∧ ∀ a', A r = some a' → ∀ i, i < C r → w.cell? (a'.add i) = some (.int .i64 ((Z r).getD i 0))) :
    ∃ pl : List (List Int), pl.length = l ∧ Svv w (.slice (some x) l c) pl ∧ ∀ j, j < pl.length → (rowL pl j).length ≤ 9223372036854775807 := by
  have hrow : ∀ r, r < l → rowL ((List.range l).map fun r => (Z r).take (L r)) r = (Z r).take (L r) := by
    intro r hr; simp [rowL, List.getD, hr]
  refine ⟨(List.range l).map fun r => (Z r).take (L r), by simp, ⟨some x, c, by simp, fun h0 => ?_⟩, fun j hj => ?_⟩
  · simp only [List.length_map, List.length_range] at h0
    obtain ⟨b, off, spot⟩ := x
    have hc := (h 0 (by omega)).1
    have hspot : spot = none := by simpa [Addr.add] using World.cell?_spot hc
    subst hspot
    have hb : b < w.heap.size := by simpa [Addr.add] using World.block_lt_of_cell? _ _ hc
    refine ⟨b, off, rfl, hb, fun j hj => ?_⟩
    simp only [List.length_map, List.length_range] at hj
    obtain ⟨h1, h2, h3, h4, h5, h6⟩ := h j (by omega)
    rw [add_off (_w := w)] at h1
    refine ⟨_, h1, ?_⟩
    rw [hrow j hj]
    cases e : A j with
    | none =>
      have h7 := h5 e
      have h8 : L j = 0 := by omega
      refine ⟨none, C j, by simp [h8], fun h9 => ?_⟩
      simp [h8] at h9
    | some a' =>
      have := sv_of_cells (x := a') h2 h4 (fun i hi => h6 a' e i (by omega))
      exact this.2
  · simp only [List.length_map, List.length_range] at hj
    rw [hrow j hj]
    obtain ⟨h1, h2, h3, h4, h5, h6⟩ := h j (by omega)
    unfold maxLen at h3
    simp only [List.length_take]
    omega
end Go.Proofs.YtgojlabkngnkdaaDoor
