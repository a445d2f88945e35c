/-
  Words of the other texts that the law on AddCard wants besides. No condition.
-/
import Derived.Test.YtgojlabkngnkdaaQcb
import Derived.Test.YtgojlabkngnkdaaQd
import Derived.Test.YtgojlabkngnkdaaQe
import Derived.ChangeKeysEq
import Derived.Test.YtgojlabkngnkdaaQar
import Derived.Deep.RegionHeld3
import Derived.Deep.CutRange
import Derived.Test.YtgojlabkngnkdaaQa
import Derived.Test.YtgojlabkngnkdaaKga
import Derived.Test.YtgojlabkngnkdaaCat4
import Derived.Deep.RegionWith
import Derived.BigRegion
import Derived.IntWalk
import Derived.Lib.OthersKept
import Derived.WalkSmall
import Derived.Test.YtgojlabkngnkdaaWst4
import Derived.Test.YtgojlabkngnkdaaKgn
import Derived.Test.YtgojlabkngnkdaaKgp
import Derived.Test.YtgojlabkngnkdaaKgr
import Derived.Test.YtgojlabkngnkdaaQcs
namespace Go.Proofs.Ytgojlabkngnkdaa
open Go.RowKit

theorem card_v (w : World) (n : Int) (v : Value) : (w.alloc (.cells #[.int .i64 n, v] 36)).cell? ⟨w.heap.size, 1, none⟩ = some v := by
  have h := heap_alloc_new w (.cells #[.int .i64 n, v] 36)
  simp only [World.cell?, h]; rfl

end Go.Proofs.Ytgojlabkngnkdaa
