/-
  DropCard in the model, by contract. No condition but lengths that fit int.
-/
import Derived.Test.YtgojlabkngnkdaaKgn
import Derived.Test.YtgojlabkngnkdaaKga
import Derived.Test.YtgojlabkngnkdaaCat4
import Derived.Deep.RegionWith
import Derived.BigRegion
import Derived.IntWalk
import Derived.Lib.OthersKept
import Derived.WalkSmall
import Derived.Test.YtgojlabkngnkdaaWst4
namespace Go.Proofs.Ytgojlabkngnkdaa
open Go.RowKit

/-- Results: a struct of two cells in memory, and a slot. -/
theorem results_twob {P : Program} {fn : Func} {p q : Tmp} {ty : TypeId} (h : fn.results = #[.cell p ty, .tmp q]) (tmps : Array Value) (w : World) (g : Nat) (x y : Value) (fs : Array Field)
    (hp : tmps.getD p undef = .pointer (some ⟨g, 0, none⟩)) (c0 : w.cell? ⟨g, 0, none⟩ = some x) (c1 : w.cell? ⟨g, 1, none⟩ = some y)
    (hu : P.underlying ty = some (.struct fs)) (hi : (P.info? ty).map (·.size) = some 2) (b : Value) (hq : tmps.getD q undef = b) :
    (results fn tmps).run P w = .ok (.tuple #[.agg #[x, y], b]) w := by
  have hp' : tmps[p]?.getD undef = .pointer (some ⟨g, 0, none⟩) := by simpa using hp
  have hq' : tmps[q]?.getD undef = b := by simpa using hq
  have hl := run_loadVar_part (P := P) w g 0 ty #[x, y] (.struct fs) (fun j v hv => by
    match j, hv with
    | 0, hv => simp at hv; subst hv; simpa using c0
    | 1, hv => simp at hv; subst hv; simpa using c1) hu rfl (by simpa using hi)
  simp [results, h, hp', hq', asAddr, hl]

noncomputable def dcB (n : Int) (Ls : List (List Int)) (k : Int) : Bool := caB n Ls && inB k 0 (Ls.length - 1)
end Go.Proofs.Ytgojlabkngnkdaa
