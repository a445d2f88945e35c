/-
  A mark is dropped: whether a number is there, whether a place lies between the ends, marks without one, and DropMark in the model, by their contracts. Condition: slices of at most 2^40 numbers.
-/
import Derived.Test.YtgojlabkngnkdaaDRtm
namespace Go.Proofs.Ytgojlabkngnkdaa
open Go.RowKit

def drL (ms : List Int) (x : Int) : List Int := ms.filter fun m => !(m == x)
end Go.Proofs.Ytgojlabkngnkdaa
