/-
  Rows of strings that the call owns. No condition.
-/
import Derived.Test.YtgojlabkngnkdaaCat4
namespace Go.Proofs.Ytgojlabkngnkdaa
open Go.RowKit

/-- What the call owns: a slice of strings in blocks from B on, not frozen. -/
def Ws (w : World) (B : Nat) (v : Value) (ls : List ByteArray) : Prop := w.ownsRow B 9 1 v ls.length (ls.map Value.string)
theorem Ws.alloc {w : World} {B : Nat} {v : Value} {ls : List ByteArray} (h : Ws w B v ls) (o : Obj) : Ws (w.alloc o) B v ls := World.ownsRow.alloc h o
theorem Ws.below {w w' : World} {B C : Nat} {v : Value} {ls : List ByteArray} (h : Ws w B v ls) (hb : Below C w w') (hC : w.heap.size ≤ C) : Ws w' B v ls := by
  obtain ⟨h1, h2⟩ := h
  refine ⟨h1, ?_⟩
  rcases h2 with h2 | ⟨g, cap, cur, hv, hg, hh, r⟩
  · exact .inl h2
  · refine .inr ⟨g, cap, cur, hv, hg, ?_, r⟩
    rw [hb.block g (Nat.lt_of_lt_of_le (Array.getElem?_eq_some_iff.1 hh).1 hC)]; exact hh
theorem Ws.mono {w : World} {B C : Nat} {v : Value} {ls : List ByteArray} (h : Ws w B v ls) (hC : C ≤ B) : Ws w C v ls := by
  obtain ⟨h1, h2⟩ := h
  refine ⟨h1, ?_⟩
  rcases h2 with h2 | ⟨g, cap, cur, hv, hg, r⟩
  · exact .inl h2
  · exact .inr ⟨g, cap, cur, hv, Nat.le_trans hC hg, r⟩
theorem Ws.grown {w w' : World} {B : Nat} {v : Value} {ls : List ByteArray} (h : Ws w B v ls) (hB : B ≤ w.heap.size) (hg : w.grownBy w' v.ownBlock) : Below B w w' :=
  (Below.refl B w).grown hg hB fun k hk => (World.ownsRow.lt h k hk).1
theorem Ws.cells {w : World} {B : Nat} {v : Value} {ls : List ByteArray} (h : Ws w B v ls) (h0 : 0 < ls.length) :
    ∃ g cap, v = .slice (some ⟨g, 0, none⟩) ls.length cap ∧ g < w.heap.size ∧ ls.length ≤ cap ∧ ∀ (j : Nat) x, ls[j]? = some x → w.cell? ⟨g, 0 + j, none⟩ = some (.string x) := by
  obtain ⟨_, h2⟩ := h
  rcases h2 with ⟨_, hn⟩ | ⟨g, cap, cur, hv, hg, hh, hnc, hcm, hcs, htake⟩
  · omega
  · refine ⟨g, cap, hv, (Array.getElem?_eq_some_iff.1 hh).1, hnc, fun j x hx => ?_⟩
    have hj : j < ls.length := (List.getElem?_eq_some_iff.1 hx).1
    have e : cur[j]? = (ls.map Value.string)[j]? := by
      rw [← htake, List.getElem?_take, if_pos (by omega)]; simp
    simp only [World.cell?, hh, Nat.zero_add]
    rw [e, List.getElem?_map, hx]; rfl

end Go.Proofs.Ytgojlabkngnkdaa
