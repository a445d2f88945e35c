/-
  Boxes that keep what lies in them, for the laws on puzzles. No condition.
-/
import Derived.Test.YtgojlabkngnkdaaDoorYtc
namespace Go.Proofs.YtgojlabkngnkdaaDoor
open Go.RowKit

/-- A box of one cell. -/
structure Bx (w : World) (g : Nat) (v : Value) : Prop where
  lt : g < w.heap.size
  cell : w.cell? ⟨g, 0, none⟩ = some v
theorem Bx.below {w w' : World} {g : Nat} {v : Value} (h : Bx w g v) (b : Below w.heap.size w w') : Bx w' g v :=
  ⟨Nat.lt_of_lt_of_le h.lt b.size, (b.cell (p := ⟨g, 0, none⟩) h.lt).trans h.cell⟩
theorem Bx.mid {w w' : World} {g C D : Nat} {v : Value} (h : Bx w g v) (m : Mid C D w w') (hn : g < C ∨ D ≤ g) : Bx w' g v :=
  ⟨Nat.lt_of_lt_of_le h.lt m.size, (m.cell h.lt hn).trans h.cell⟩
theorem bx_new (w : World) (v : Value) (t : TypeId) : Bx (w.alloc (.cells #[v] t)) w.heap.size v := ⟨by simp, by simp [go_sem]⟩
theorem mid_row {w w' : World} {row : Option Nat} {C E : Nat} (k : w.grownBy w' row) (h : ∀ g, row = some g → C ≤ g ∧ g < E) : Mid C E w w' :=
  ⟨k.os, k.tape, k.output, k.size, fun i hi hn => k.block i hi fun e => by have := h i e.symm; omega⟩
theorem Ck.lo {w : World} {B : Nat} {v : Value} {cs : List Cl} (h : Ck w B v cs) {E : Nat} (hE : w.heap.size ≤ E) : ∀ g, v.ownBlock = some g → B ≤ g ∧ g < E := fun g hg => by
  have := World.ownsRow.lt h g hg; omega
theorem Ck.midO {w w' : World} {B C E : Nat} {v : Value} {cs : List Cl} (h : Ck w B v cs) (m : Mid C E w w') (hE : E ≤ B) : Ck w' B v cs := by
  obtain ⟨h1, h2⟩ := h
  refine ⟨h1, ?_⟩
  rcases h2 with h2 | ⟨g, cap, cur, hv, hg, hh, r⟩
  · exact .inl h2
  · exact .inr ⟨g, cap, cur, hv, hg, by rw [m.block g (Array.getElem?_eq_some_iff.1 hh).1 (.inr (by omega))]; exact hh, r⟩
theorem s_two {W W' : World} {a b : Nat} {x y : Value} (ha : Bx W a x) (hb : Bx W b y) (k : Below W.heap.size W W') :
    W'.cell? ⟨a, 0, none⟩ = some x ∧ W'.cell? ⟨b, 0, none⟩ = some y ∧ Below W.heap.size W W' :=
  ⟨(ha.below k).cell, (hb.below k).cell, k⟩
theorem s_bel {W W' : World} (a b : Nat) (x y : Value) (h : W'.cell? ⟨a, 0, none⟩ = some x ∧ W'.cell? ⟨b, 0, none⟩ = some y ∧ Below W.heap.size W W') : Below W.heap.size W W' := h.2.2
theorem Cv.len {w : World} {v : Value} {cs : List Cl} (h : Cv w v cs) : cs.length ≤ 9223372036854775807 := by
  obtain ⟨p, cap, _, h1, h2, _⟩ := h
  unfold maxLen at h2
  omega
theorem Sv.form {w : World} {v : Value} {xs : List Int} (h : Sv w v xs) : ∃ p cap, v = .slice p xs.length cap := by
  obtain ⟨p, cap, e, _⟩ := h; exact ⟨p, cap, e⟩
end Go.Proofs.YtgojlabkngnkdaaDoor
