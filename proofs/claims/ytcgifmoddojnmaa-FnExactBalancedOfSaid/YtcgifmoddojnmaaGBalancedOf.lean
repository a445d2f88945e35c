/-
  The law on BalancedOf, walked: whatever comes in, it returns true and writes nothing that was there. No condition.
-/
import Derived.Test.YtcgifmoddojnmaaZnb
namespace Go.Proofs.Ytcgifmoddojnmaa
open Go.RowKit

set_option maxHeartbeats 4000000 in
theorem lawBalancedOf (a0 : Int) (w : World) :
    Calls Try.prog 14 #[.int .i64 a0] w fun e w' => e = .returned (.bool true) ∧ Below w.heap.size w w' := by
  go_enter Try.func14, Try.ntmps14
  go_wp2_with fail
  refine (specBalancedOf_any _ _).mono ?_
  rintro e w2 ⟨rfl, b2⟩
  have t1 := nxt (Below.refl w.heap.size w) b2
  go_wp2_with fail
  refine (implBalancedOf_any _ _).mono ?_
  rintro e w4 ⟨rfl, b4⟩
  have t2 := nxt t1 b4
  go_wp2_with fail
  go_ret
  exact ⟨rfl, t2⟩

end Go.Proofs.Ytcgifmoddojnmaa
