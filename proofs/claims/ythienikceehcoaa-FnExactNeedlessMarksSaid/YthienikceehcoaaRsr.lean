/-
  The model's search for complete and sparse rulers, by its contract. Condition: a list that a ruler may begin with, a length of at most 20.
-/
import Derived.Test.YthienikceehcoaaRse
namespace Go.Proofs.Ythienikceehcoaa
open Go.RowKit

theorem ow_nilR (w : World) (B : Nat) : Ow w B (.slice none 0 0) [] := World.ownsRow_nil _ _ _ _
end Go.Proofs.Ythienikceehcoaa
