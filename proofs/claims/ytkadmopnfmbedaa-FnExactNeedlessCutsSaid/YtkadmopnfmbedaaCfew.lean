/-
  Plain lists of integers: the fewest cuts for a chain, and that such cuts pay for each chain of up to 63 links. No condition; no program is spoken of here.
-/
import Derived.Test.YtkadmopnfmbedaaCsum
import Derived.Test.YtkadmopnfmbedaaCpure
namespace Go.Proofs.Ytkadmopnfmbedaa

/-- Cuts pay. -/
def payB (m : Int) (c : List Int) : Bool := decide (runP (pcsP m c) = m)
end Go.Proofs.Ytkadmopnfmbedaa
