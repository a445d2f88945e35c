/-
  A deck of cards in the program: the answers of a number, and how many answers are not a number's, by their contracts. Conditions: at most 12 cards; numbers of 0..127.
-/
import Derived.Test.YtgojlabkngnkdaaQc
import Derived.Test.YtgojlabkngnkdaaKga
import Derived.Test.YtgojlabkngnkdaaCat4
import Derived.Deep.RegionWith
import Derived.BigRegion
import Derived.IntWalk
import Derived.Lib.OthersKept
import Derived.WalkSmall
namespace Go.Proofs.Ytgojlabkngnkdaa
open Go.RowKit

theorem Dr.form {w : World} {v : Value} {ps : List (Int → Bool)} (h : Dr w v ps) : ∃ p cap, v = .slice p ps.length cap := by
  obtain ⟨p, cap, e, _⟩ := h; exact ⟨p, cap, e⟩
theorem Dr.row {w : World} {p : Option Addr} {cap : Nat} {ps : List (Int → Bool)} (h : Dr w (.slice p ps.length cap) ps) (h0 : 0 < ps.length) :
    ∃ g o, p = some ⟨g, o, none⟩ ∧ g < w.heap.size ∧ ∀ k q, ps[k]? = some q → ∀ j, j < 128 → w.cell? ⟨g, o + (k * 128 + j), none⟩ = some (.bool (q (j : Int))) := by
  obtain ⟨p', cap', e, hx⟩ := h
  simp only [Value.slice.injEq, true_and] at e
  obtain ⟨rfl, rfl⟩ := e
  exact hx h0

end Go.Proofs.Ytgojlabkngnkdaa
