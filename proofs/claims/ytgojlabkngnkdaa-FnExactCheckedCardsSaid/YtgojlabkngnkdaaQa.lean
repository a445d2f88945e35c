/-
  The program's tests of cards, by their contracts. Condition: at most 2^40 lists of at most 2^40 numbers.
-/
import Derived.Test.YtgojlabkngnkdaaKga
import Derived.Test.YtgojlabkngnkdaaCat4
import Derived.Deep.RegionWith
import Derived.BigRegion
import Derived.IntWalk
import Derived.Lib.OthersKept
import Derived.WalkSmall
import Derived.Test.YtgojlabkngnkdaaQow
import Derived.Laws.RangeAny
namespace Go.Proofs.Ytgojlabkngnkdaa
open Go.RowKit

set_option maxHeartbeats 1000000 in
theorem areNumbers_any (n : Int) (w : World) : Calls Try.prog 41 #[.int .i64 n] w fun e w' => e = .returned (.bool (inB n 1 128)) ∧ w = w' := by
  have hi : inB n 1 128 = (decide (1 ≤ n) && decide (n ≤ 128)) := rfl
  have HI := Lib.hid hi
  clear hi
  go_enter Try.func41, Try.ntmps41
  go_wp2
  all_goals (go_ret; exact ⟨ret_bool (by rw [HI.out]; simp; try omega), rfl⟩)

end Go.Proofs.Ytgojlabkngnkdaa
