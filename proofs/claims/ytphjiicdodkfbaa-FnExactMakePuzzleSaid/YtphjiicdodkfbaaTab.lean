/-
  The program's table of how each length is made, by its contracts. Condition: pieces.
-/
import Derived.Test.YtphjiicdodkfbaaWays
import Derived.Test.YtphjiicdodkfbaaLawN
import Derived.Deep.RegionLaw
import Derived.Deep.RegionWith
namespace Go.Proofs.Ytphjiicdodkfbaa
open Go.RowKit

/-- How a length is made: ways, fewest pieces, the greatest index from which on the pieces suffice. -/
structure Md where
  a : Int
  b : Int
  c : Int
def Md.z : Md := ⟨0, 0, 0⟩

set_option maxHeartbeats 4000000 in
theorem or_skip (a b c : Int) (i : Int) (w : World) :
    Calls Try.prog 124 #[.agg #[.int .i64 a, .int .i64 b, .int .i64 c], .int .i64 i, .agg #[.int .i64 0, .int .i64 0, .int .i64 0]] w
      fun e w' => e = .returned (.agg #[.int .i64 a, .int .i64 b, .int .i64 c]) ∧ Below w.heap.size w w' := by
  go_enter Try.func124, Try.ntmps124
  go_wp2
  all_goals exact bodyPost_ret (v := .agg #[.int .i64 a, .int .i64 b, .int .i64 c]) (by simp [results, Try.results124, go_sem]; try omega) rfl ⟨rfl, ((((Below.refl _ _).alloc (Nat.le_refl _) _).alloc (by simp) _).alloc (by simp; omega) _)⟩

set_option maxHeartbeats 4000000 in
theorem or_first (a b c : Int) (h0 : 0 < a) (h1 : a ≤ 1099511627776) (h2 : 0 ≤ b) (h3 : b ≤ 1099511627776) (i : Int) (w : World) :
    Calls Try.prog 124 #[.agg #[.int .i64 0, .int .i64 0, .int .i64 0], .int .i64 i, .agg #[.int .i64 a, .int .i64 b, .int .i64 c]] w
      fun e w' => e = .returned (.agg #[.int .i64 a, .int .i64 (b + 1), .int .i64 i]) ∧ Below w.heap.size w w' := by
  have d : (a == 0) = false := by simp; omega
  go_enter Try.func124, Try.ntmps124
  go_wp2
  all_goals exact bodyPost_ret (v := .agg #[.int .i64 a, .int .i64 (b + 1), .int .i64 i]) (by simp [results, Try.results124, go_sem]; try omega) rfl ⟨rfl, ((((Below.refl _ _).alloc (Nat.le_refl _) _).alloc (by simp) _).alloc (by simp; omega) _)⟩

set_option maxHeartbeats 4000000 in
theorem or_both (a b c x y z : Int) (h0 : 0 < a) (h1 : a ≤ 1099511627776) (h2 : 0 ≤ b) (h3 : b ≤ 1099511627776) (g0 : 0 < x) (g1 : x ≤ 1099511627776) (_g2 : 0 ≤ y) (_g3 : y ≤ 1099511627776) (i : Int) (w : World) :
    Calls Try.prog 124 #[.agg #[.int .i64 x, .int .i64 y, .int .i64 z], .int .i64 i, .agg #[.int .i64 a, .int .i64 b, .int .i64 c]] w
      fun e w' => e = .returned (.agg #[.int .i64 (x + a), .int .i64 (min y (b + 1)), .int .i64 z]) ∧ Below w.heap.size w w' := by
  have d : (a == 0) = false := by simp; omega
  have d2 : (x == 0) = false := by simp; omega
  go_enter Try.func124, Try.ntmps124
  go_wp2
  all_goals exact bodyPost_ret (v := .agg #[.int .i64 (x + a), .int .i64 (min y (b + 1)), .int .i64 z]) (by simp [results, Try.results124, go_sem]; try omega) rfl ⟨rfl, ((((Below.refl _ _).alloc (Nat.le_refl _) _).alloc (by simp) _).alloc (by simp; omega) _)⟩

end Go.Proofs.Ytphjiicdodkfbaa
