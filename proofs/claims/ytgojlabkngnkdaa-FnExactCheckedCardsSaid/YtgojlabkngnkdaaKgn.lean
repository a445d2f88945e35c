/-
  Cards in the model without a card, by contract: rows of the call's own. Condition: there are cards.
-/
import Derived.Test.YtgojlabkngnkdaaKga
import Derived.Test.YtgojlabkngnkdaaCat4
import Derived.Deep.RegionWith
import Derived.BigRegion
import Derived.IntWalk
import Derived.Lib.OthersKept
import Derived.WalkSmall
import Derived.Test.YtgojlabkngnkdaaWst4
import Derived.Test.YtgojlabkngnkdaaQj
import Derived.Deep.RegionLaw
import Derived.Deep.AppendLies
namespace Go.Proofs.Ytgojlabkngnkdaa
open Go.RowKit

/-- A slice of slices whose rows may be appended, for reading: none nil-like beyond its end. -/
def SrcL (w : World) (v : Value) (Ls : List (List Int)) : Prop := ∃ p cap, v = .slice p Ls.length cap ∧ (0 < Ls.length → ∃ b off, p = some ⟨b, off, none⟩ ∧ b < w.heap.size ∧ ∀ j, j < Ls.length → ∃ u, w.cell? ⟨b, off + j, none⟩ = some u ∧ Src w u (rowL Ls j))
theorem SrcL.below {w w' : World} {v : Value} {Ls : List (List Int)} {B : Nat} (h : SrcL w v Ls) (hb : Below B w w') (hB : w.heap.size ≤ B) : SrcL w' v Ls := by
  obtain ⟨p, cap, hv, hx⟩ := h
  refine ⟨p, cap, hv, fun h0 => ?_⟩
  obtain ⟨b, off, hp, hlt, hc⟩ := hx h0
  refine ⟨b, off, hp, Nat.lt_of_lt_of_le hlt hb.size, fun j hj => ?_⟩
  obtain ⟨u, hu, hs⟩ := hc j hj
  exact ⟨u, (hb.cell (p := ⟨b, off + j, none⟩) (by show b < B; omega)).trans hu, hs.below hb hB⟩
theorem Src.sv {w : World} {v : Value} {xs : List Int} (h : Src w v xs) : Sv w v xs := by
  rcases h with ⟨rfl, rfl⟩ | ⟨b, off, c, hv, hb, hc⟩
  · exact sv_nil w
  · exact ⟨_, _, hv, fun _ => ⟨b, off, rfl, hb, hc⟩⟩
theorem SrcL.svv {w : World} {v : Value} {Ls : List (List Int)} (h : SrcL w v Ls) : Svv w v Ls := by
  obtain ⟨p, cap, hv, hx⟩ := h
  refine ⟨p, cap, hv, fun h0 => ?_⟩
  obtain ⟨b, off, hp, hlt, hc⟩ := hx h0
  exact ⟨b, off, hp, hlt, fun j hj => by obtain ⟨u, hu, hr⟩ := hc j hj; exact ⟨u, hu, hr.sv⟩⟩
end Go.Proofs.Ytgojlabkngnkdaa
