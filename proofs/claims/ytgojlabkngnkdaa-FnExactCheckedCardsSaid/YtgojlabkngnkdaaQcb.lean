/-
  A deck without one of its cards, by contract. Condition: the card is in the deck; at most 12 cards.
-/
import Derived.Test.YtgojlabkngnkdaaQc
import Derived.Lib.AppendZerosOnto
import Derived.Test.YtgojlabkngnkdaaQd
import Derived.Test.YtgojlabkngnkdaaQe
import Derived.ChangeKeysEq
import Derived.Test.YtgojlabkngnkdaaQar
import Derived.Deep.RegionHeld3
import Derived.Deep.CutRange
import Derived.Test.YtgojlabkngnkdaaQj
namespace Go.Proofs.Ytgojlabkngnkdaa
open Go.RowKit

theorem Dk.cap {w : World} {B : Nat} {v : Value} {ps : List (Int → Bool)} (h : Dk w B v ps) (h0 : 0 < ps.length) : ∃ g cap, v = .slice (some ⟨g, 0, none⟩) ps.length cap ∧ ps.length ≤ cap ∧ cap ≤ maxLen ∧ g < w.heap.size ∧ ∀ k q, ps[k]? = some q → ∀ j, j < 128 → w.cell? ⟨g, k * 128 + j, none⟩ = some (.bool (q (j : Int))) := by
  obtain ⟨p, c, e, hx⟩ := h.dr
  rcases id h.2 with ⟨rfl, e⟩ | ⟨g, cap, cur, rfl, hB, hh, h1, h2, _⟩
  · omega
  · simp only [Value.slice.injEq, true_and] at e
    obtain ⟨rfl, rfl⟩ := e
    obtain ⟨g', o, e, hg, hc⟩ := hx h0
    simp only [Option.some.injEq, Addr.mk.injEq, and_true] at e
    obtain ⟨rfl, rfl⟩ := e
    exact ⟨g, cap, rfl, h1, h2, hg, fun k q hq j hj => by have := hc k q hq j hj; rwa [Nat.zero_add] at this⟩
end Go.Proofs.Ytgojlabkngnkdaa
