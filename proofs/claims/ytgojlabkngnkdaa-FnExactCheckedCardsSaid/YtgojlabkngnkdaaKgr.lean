/-
  AddCard in the model, by contract. No condition but lengths that fit int.
-/
import Derived.Test.YtgojlabkngnkdaaKgq
namespace Go.Proofs.Ytgojlabkngnkdaa
open Go.RowKit

theorem owns_far {w : World} {B e sz n : Nat} {v : Value} {xs : List Value} (h : w.ownsRow B e sz v n xs) {g : Nat} {cur : Array Value} {t : TypeId} (hg : w.heap[g]? = some (.cells cur t (0, 0))) (ht : t ≠ e) (i : Nat) (x : Value) : (w.setCell ⟨g, i, none⟩ x).ownsRow B e sz v n xs := by
  obtain ⟨h1, h2⟩ := h
  refine ⟨h1, ?_⟩
  rcases h2 with h2 | ⟨q, cap, c, hv, hq, hh, r⟩
  · exact .inl h2
  · refine .inr ⟨q, cap, c, hv, hq, ?_, r⟩
    rw [heap_setCell_other _ _ _ _ (by intro e2; subst e2; rw [hg] at hh; simp at hh; exact ht hh.2)]
    exact hh
theorem Owa.far {w : World} {B D : Nat} {v : Value} {pl : List (List Int)} (h : Owa w B D v pl) {g : Nat} {cur : Array Value} (hg : w.heap[g]? = some (.cells cur 36 (0, 0))) (i : Nat) (x : Value) : Owa (w.setCell ⟨g, i, none⟩ x) B D v pl := by
  obtain ⟨vals, h⟩ := h
  exact ⟨vals, owns_far h.out hg (by decide) i x, fun j hj => owns_far (h.row j hj) hg (by decide) i x, h.sep, h.low⟩

end Go.Proofs.Ytgojlabkngnkdaa
