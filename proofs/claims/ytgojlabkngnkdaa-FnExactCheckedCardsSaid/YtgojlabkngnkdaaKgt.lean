/-
  The binary cards in the model, by contract. No condition.
-/
import Derived.Test.YtgojlabkngnkdaaKgs
import Derived.Test.YtgojlabkngnkdaaBlen
namespace Go.Proofs.Ytgojlabkngnkdaa
open Go.RowKit

def bcK (n k : Nat) : List (List Int) := (List.range k).map fun j => cbK j n
theorem bcK_zero (n : Nat) : bcK n 0 = [] := rfl
theorem bcK_succ (n k : Nat) : bcK n k ++ [cbK k n] = bcK n (k + 1) := by unfold bcK; rw [List.range_succ, List.map_append]; rfl
theorem bcK_len (n k : Nat) : (bcK n k).length = k := by simp [bcK]
def bcN (n : Int) : Int := if inB n 1 128 = true then n else 0
def bcR (n : Int) : List (List Int) := if inB n 1 128 = true then bcK n.toNat (flen n) else []
theorem bc_no {n : Int} (h : inB n 1 128 = false) : bcN n = 0 ∧ bcR n = [] := by simp [bcN, bcR, h]
theorem bc_yes {n : Int} (h : inB n 1 128 = true) : bcN n = n ∧ bcR n = bcK n.toNat (flen n) := by simp [bcN, bcR, h]

end Go.Proofs.Ytgojlabkngnkdaa
