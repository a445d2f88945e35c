/-
  The program's table of how each length is made, by its contracts. Condition: pieces.
-/
import Derived.Test.YtgojlabkngnkdaaDoorWays
import Derived.Test.YtgojlabkngnkdaaDoorNum
import Derived.Deep.RegionLaw
import Derived.Deep.RegionWith
namespace Go.Proofs.YtgojlabkngnkdaaDoor
open Go.RowKit

/-- How a length is made: ways, fewest pieces, the greatest index from which on the pieces suffice. -/
structure Md where
  a : Int
  b : Int
  c : Int
def Md.z : Md := ⟨0, 0, 0⟩

end Go.Proofs.YtgojlabkngnkdaaDoor
