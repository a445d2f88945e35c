/-
  Slices are put together: an append onto a slice of the call's own, the library's Grow (of nil) and Concat, the model's copy, the library's BinarySearch in sorted numbers, by their contracts. Conditions: at most 2^30 numbers.
-/
import Derived.Test.YtgojlabkngnkdaaDoorMark
namespace Go.Proofs.YtgojlabkngnkdaaDoor
open Go.RowKit

/-- What may be appended: nothing, or numbers that lie somewhere. -/
def Src (w : World) (u : Value) (xs : List Int) : Prop :=
  (u = .slice none 0 0 ∧ xs = []) ∨ ∃ b off c, u = .slice (some ⟨b, off, none⟩) xs.length c ∧ b < w.heap.size ∧ ∀ j, j < xs.length → w.cell? ⟨b, off + j, none⟩ = some (.int .i64 (xs.getD j 0))
/-- A slice that isn't nil, and its capacity. -/
def Sp (w : World) (v : Value) (xs : List Int) : Prop :=
  ∃ b off cap, v = .slice (some ⟨b, off, none⟩) xs.length cap ∧ xs.length ≤ cap ∧ cap ≤ maxLen ∧ b < w.heap.size ∧ ∀ j, j < xs.length → w.cell? ⟨b, off + j, none⟩ = some (.int .i64 (xs.getD j 0))

theorem Sp.sv {w : World} {v : Value} {xs : List Int} (h : Sp w v xs) : Sv w v xs := by
  obtain ⟨b, off, cap, hv, _, _, hb, hc⟩ := h
  exact ⟨_, _, hv, fun _ => ⟨b, off, rfl, hb, hc⟩⟩
theorem Src.below {w w' : World} {v : Value} {xs : List Int} {B : Nat} (h : Src w v xs) (hb : Below B w w') (hB : w.heap.size ≤ B) : Src w' v xs := by
  rcases h with h | ⟨b, off, c, hv, hlt, hc⟩
  · exact .inl h
  · exact .inr ⟨b, off, c, hv, Nat.lt_of_lt_of_le hlt hb.size, fun j hj => (hb.cell (p := ⟨b, off + j, none⟩) (by show b < B; omega)).trans (hc j hj)⟩
theorem Sp.below {w w' : World} {v : Value} {xs : List Int} {B : Nat} (h : Sp w v xs) (hb : Below B w w') (hB : w.heap.size ≤ B) : Sp w' v xs := by
  obtain ⟨b, off, c, hv, h1, h2, hlt, hc⟩ := h
  exact ⟨b, off, c, hv, h1, h2, Nat.lt_of_lt_of_le hlt hb.size, fun j hj => (hb.cell (p := ⟨b, off + j, none⟩) (by show b < B; omega)).trans (hc j hj)⟩
/-- What is the call's own from B on was written: all below is as it was. -/
theorem Ow.grown {w w' : World} {B : Nat} {v : Value} {ys : List Int} (h : Ow w B v ys) (hB : B ≤ w.heap.size) (hg : w.grownBy w' v.ownBlock) : Below B w w' :=
  (Below.refl B w).grown hg hB fun k hk => (World.ownsRow.lt h k hk).1
theorem Ow.alloc {w : World} {B : Nat} {v : Value} {ys : List Int} (h : Ow w B v ys) (o : Obj) : Ow (w.alloc o) B v ys := World.ownsRow.alloc h o
end Go.Proofs.YtgojlabkngnkdaaDoor
