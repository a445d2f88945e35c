/-
  The law on CountBest, walked: whatever comes in, each returns true and writes nothing that was there. No condition but lengths that fit int.
-/
import Derived.Test.YtmllokooceghiaaTbt
import Derived.Test.YtmllokooceghiaaSgh
namespace Go.Proofs.Ytmllokooceghiaa
open Go.RowKit

set_option maxHeartbeats 4000000 in
theorem lawCountBest (a1 a2 : Int) (w : World) :
    Calls Try.prog 14 #[.int .i64 a1, .int .i64 a2] w fun e w' => e = .returned (.bool true) ∧ Below w.heap.size w w' := by
  go_enter Try.func14, Try.ntmps14
  go_wp2_with fail
  refine (specCountBest_any _ _ _).mono ?_
  rintro e w2 ⟨rfl, b2⟩
  go_wp2_with fail
  refine (implCountBest_any _ _ _).mono ?_
  rintro e w4 ⟨rfl, b4⟩
  have b4 := nxt b2 b4
  go_wp2_with fail
  go_ret
  exact ⟨rfl, b4⟩

end Go.Proofs.Ytmllokooceghiaa
