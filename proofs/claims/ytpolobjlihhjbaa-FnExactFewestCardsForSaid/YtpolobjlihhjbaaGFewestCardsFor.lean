/-
  The law on FewestCardsFor, walked: whatever comes in, it returns true and writes nothing that was there. No condition but lengths that fit int.
-/
import Derived.Test.YtpolobjlihhjbaaBlen
import Derived.Test.YtpolobjlihhjbaaQcs
import Derived.Deep.RegionHeld3
import Derived.Deep.CutRange
namespace Go.Proofs.Ytpolobjlihhjbaa
open Go.RowKit

set_option maxHeartbeats 8000000 in
theorem lawFewestCardsFor (a1 : Int) (w : World) :
    Calls Try.prog 17 #[.int .i64 a1] w fun e w' => e = .returned (.bool true) ∧ Below w.heap.size w w' := by
  go_enter Try.func17, Try.ntmps17
  go_wp2_with fail
  refine (specFewestCardsFor_any a1 _).mono ?_
  rintro e w2 ⟨rfl, b2⟩
  go_wp2_with fail
  refine (implFewestCardsFor_any a1 _).mono ?_
  rintro e w4 ⟨rfl, b4⟩
  have t4 := nxt b2 b4
  go_wp2_with fail
  go_ret
  exact ⟨rfl, t4⟩

end Go.Proofs.Ytpolobjlihhjbaa
