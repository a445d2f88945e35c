/-
  The law on ShortestSparse, walked: whatever comes in, each returns true and writes nothing that was there. No condition but lengths that fit int.
-/
import Derived.Test.YtaihgdecoaajoaaUst
import Derived.Test.YtaihgdecoaajoaaUgh
namespace Go.Proofs.Ytaihgdecoaajoaa
open Go.RowKit

set_option maxHeartbeats 4000000 in
theorem lawShortestSparse (a1 : Int) (w : World) :
    Calls Try.prog 17 #[.int .i64 a1] w fun e w' => e = .returned (.bool true) ∧ Below w.heap.size w w' := by
  go_enter Try.func17, Try.ntmps17
  go_wp2_with fail
  refine (specShortestSparse_any _ _).mono ?_
  rintro e w2 ⟨rfl, b2⟩
  go_wp2_with fail
  refine (implShortestSparse_any _ _).mono ?_
  rintro e w4 ⟨rfl, b4⟩
  have b4 := nxt b2 b4
  go_wp2_with fail
  go_ret
  exact ⟨rfl, b4⟩

end Go.Proofs.Ytaihgdecoaajoaa
