/-
  The program's array of all values, as it begins: nothing is made but 0. No condition.
-/
import Derived.Test.YtmllokooceghiaaTpu
import Derived.Test.YtmllokooceghiaaTst
namespace Go.Proofs.Ytmllokooceghiaa
open Go.RowKit
def zc : Nat → List Value
  | 0 => []
  | n + 1 => .int .i64 0 :: .int .u64 0 :: zc n
def toldZ : Array Value := (.int .i64 0 :: .int .u64 1 :: zc 4000 : List Value).toArray
theorem Try.builtT : Try.prog.built 70 [(0, .agg #[.int .i64 0, .int .u64 1])] = some toldZ := by kernel_rfl
theorem Try.arrU : Try.prog.underlying 70 = some (.array 4001 44) := by kernel_rfl
theorem Try.arrI : (Try.prog.info? 70).map (·.size) = some 8002 := by kernel_rfl
end Go.Proofs.Ytmllokooceghiaa
