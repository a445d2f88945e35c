/-
  The law on IsClue, walked: whatever comes in, it returns true and writes nothing that was there. No condition.
-/
import Derived.Test.YtphjiicdodkfbaaYis
import Derived.Test.YtphjiicdodkfbaaYvb
import Derived.Test.YtphjiicdodkfbaaYlw
namespace Go.Proofs.Ytphjiicdodkfbaa
open Go.RowKit

set_option maxHeartbeats 8000000 in
theorem lawIsClue (K0 A0 B0 : Int) (w : World) :
    Calls Try.prog 4 #[.agg #[.int .i64 K0, .int .i64 A0, .int .i64 B0]] w fun e w' => e = .returned (.bool true) ∧ Below w.heap.size w w' := by
  obtain ⟨W, eW⟩ : ∃ W, w.alloc (.cells #[.int .i64 K0, .int .i64 A0, .int .i64 B0] 27) = W := ⟨_, rfl⟩
  have hb0 : Below w.heap.size w W := by rw [← eW]; exact (Below.refl _ _).alloc (Nat.le_refl _) _
  have HB := Lib.hid (show W.heap[w.heap.size]? = some (.cells #[.int .i64 K0, .int .i64 A0, .int .i64 B0] 27 (0, 0)) by rw [← eW]; exact heap_alloc_new w _)
  have t : Below W.heap.size W W := Below.refl _ _
  have ZA : w.heap.size < W.heap.size := by rw [← eW]; simp
  obtain ⟨x1, x2, x3, -, -, -⟩ := cells3_of ((t.block _ ZA).trans HB.out)
  go_enter Try.func4, Try.ntmps4
  go_wp2_with fail
  clear eW
  clear x1 x2 x3
  refine (toClue_any _ _ _ _).mono ?_
  rintro e wq ⟨rfl, b⟩
  replace t := nxt t b
  clear b
  go_wp2_with fail
  refine (specIsClue_any K0 A0 B0 _).mono ?_
  rintro e w2 ⟨rfl, b⟩
  replace t := nxt t b
  clear b
  obtain ⟨x1, x2, x3, -, -, -⟩ := cells3_of ((t.block _ ZA).trans HB.out)
  go_wp2_with fail
  clear x1 x2 x3
  refine (toClue_any _ _ _ _).mono ?_
  rintro e wq ⟨rfl, b⟩
  replace t := nxt t b
  clear b
  go_wp2_with fail
  refine (implIsClue_any K0 A0 B0 _).mono ?_
  rintro e w4 ⟨rfl, b⟩
  replace t := nxt t b
  clear b
  go_wp2_with fail
  go_ret
  exact ⟨rfl, nxt hb0 t⟩

end Go.Proofs.Ytphjiicdodkfbaa
