/-
  Slices of slices of integers of the call's own are marked; what else is the call's own stays. Condition: at most 2^20 numbers in all.
-/
import Derived.Test.YtgojlabkngnkdaaPsm4
import Derived.Test.YtgojlabkngnkdaaCat4
namespace Go.Proofs.Ytgojlabkngnkdaa
open Go.RowKit

theorem Oww.kept {w w' : World} {B D r : Nat} {v : Value} {pl : List (List Int)} (h : Oww w B D v pl) (k : w.grownBy w' (some r)) (hr : r < B) : Oww w' B D v pl := by
  obtain ⟨g, U, bs, hv, hg, hrow, h2, ho⟩ := h
  have hne : ∀ j, j < pl.length → (U j).ownBlock = none ∨ (U j).ownBlock ≠ some r := fun j hj => by
    obtain ⟨ys, e, o, a⟩ := h2.own j (Nat.zero_le _) hj
    have p := h2.pos j hj
    unfold OwnAt at a
    exact .inr (by rw [a]; intro e2; simp only [Option.some.injEq] at e2; omega)
  refine ⟨g, U, bs, hv, hg, hrow.of_block (k.block g hrow.lt (by simp only [ne_eq, Option.some.injEq]; omega)), ⟨fun j h0 hj => ?_, h2.pos, h2.inc⟩, fun j hj => (ho j hj).kept k (hne j hj)⟩
  obtain ⟨ys, e, o, a⟩ := h2.own j h0 hj
  exact ⟨ys, e, o.kept k (hne j hj), a⟩

theorem Oww.le {w : World} {B D : Nat} {v : Value} {pl : List (List Int)} (h : Oww w B D v pl) : B ≤ w.heap.size := by
  obtain ⟨g, U, bs, hv, hg, hrow, _⟩ := h
  have := hrow.lt
  omega

end Go.Proofs.Ytgojlabkngnkdaa
