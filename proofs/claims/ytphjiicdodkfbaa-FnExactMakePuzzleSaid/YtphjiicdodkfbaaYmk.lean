/-
  MakePuzzle in the model and in the program, by their contracts. Condition: at most 2^40 numbers in the list.
-/
import Derived.Test.YtphjiicdodkfbaaYis
import Derived.Test.YtphjiicdodkfbaaYab
import Derived.Test.YtphjiicdodkfbaaYvb
import Derived.Test.YtphjiicdodkfbaaYca
namespace Go.Proofs.Ytphjiicdodkfbaa
open Go.RowKit

def nxZ (z : Int) : Int := (z * 179 + 2081) % 10007
theorem nxZ_bd {z : Int} (_h : 0 ≤ z) : 0 ≤ nxZ z ∧ nxZ z ≤ 10006 := by
  unfold nxZ
  omega
def mkK (z : Int) : Int := nxZ z % 6
def mkA (z : Int) : Int := if mkK z = 5 then nxZ (nxZ z) % 6 + 1 else nxZ (nxZ z) % 25
theorem mkK_bd (z : Int) : 0 ≤ mkK z ∧ mkK z ≤ 5 := by unfold mkK; omega
theorem mkA_bd (z : Int) : 0 ≤ mkA z ∧ mkA z ≤ 24 := by unfold mkA; split <;> omega
def zS (s : Int) : Nat → Int
  | 0 => s
  | k + 1 => nxZ (nxZ (zS s k))
theorem zS_bd {s : Int} (h : 0 ≤ s) (h2 : s ≤ 10006) : ∀ k, 0 ≤ zS s k ∧ zS s k ≤ 10006
  | 0 => ⟨h, h2⟩
  | k + 1 => nxZ_bd (nxZ_bd (zS_bd h h2 k).1).1
noncomputable def mkT (s : Int) (xs : List Int) (k : Nat) : List Cl := (List.range k).map fun j => abL (mkK (zS s j)) (mkA (zS s j)) xs
theorem mkT_step (s : Int) (xs : List Int) (k : Nat) : mkT s xs k ++ [abL (mkK (zS s k)) (mkA (zS s k)) xs] = mkT s xs (k + 1) := by
  unfold mkT; rw [List.range_succ, List.map_append]; rfl
theorem mkT_len (s : Int) (xs : List Int) (k : Nat) : (mkT s xs k).length = k := by simp [mkT]
noncomputable def mkB (xs : List Int) (m s : Int) : Bool := hdB xs && (inB m 0 6 && inB s 0 9999)
noncomputable def mkR (xs : List Int) (m s : Int) : List Cl := if mkB xs m s = true then mkT s xs m.toNat else []
theorem mkR_len (xs : List Int) (m s : Int) : (mkR xs m s).length ≤ 6 := by
  unfold mkR
  split
  · next h =>
    unfold mkB at h
    simp only [Bool.and_eq_true, inB_iff] at h
    rw [mkT_len]
    omega
  · simp
theorem flC_sole (c : Cl) (j : Nat) (y : Value) (h : (flC [c])[j]? = some y) : (#[Value.int .i64 c.k, .int .i64 c.a, .int .i64 c.b] : Array Value)[j]? = some y := by
  have e : flC [c] = [Value.int .i64 c.k, .int .i64 c.a, .int .i64 c.b] := rfl
  rw [e] at h
  simpa using h
theorem cs_one (w : World) (c : Cl) : Cs (w.alloc (.cells #[.int .i64 c.k, .int .i64 c.a, .int .i64 c.b] 29)) (.slice (some ⟨w.heap.size, 0, none⟩) 1 1) [c] := by
  refine .inr ⟨w.heap.size, 0, 1, rfl, by simp, fun j y hy => ?_⟩
  have hr := heap_alloc_new w (.cells #[.int .i64 c.k, .int .i64 c.a, .int .i64 c.b] 29)
  rw [cell_of_row _ _ _ _ _ _ hr]
  rw [Nat.zero_add]
  exact flC_sole c j y hy
set_option maxHeartbeats 1000000 in
theorem nextNumber_any (z : Int) (w : World) (h : 0 ≤ z) (h2 : z ≤ 10006) :
    Calls Try.prog 94 #[.int .i64 z] w fun e w' => e = .returned (.int .i64 (nxZ z)) ∧ w = w' := by
  have e3 : (z * 179 + 2081) % 10007 = nxZ z := by unfold nxZ; omega
  go_enter Try.func94, Try.ntmps94
  go_wp2
  go_ret
  exact ⟨congrArg (fun q => Ending.returned (.int .i64 q)) e3, rfl⟩
set_option maxHeartbeats 1000000 in
theorem pzNext_any (z : Int) (w : World) (h : 0 ≤ z) (h2 : z ≤ 10006) :
    Calls Try.prog 92 #[.int .i64 z] w fun e w' => e = .returned (.int .i64 (nxZ z)) ∧ w = w' := by
  have e3 : (179 * z + 2081) % 10007 = nxZ z := by unfold nxZ; omega
  go_enter Try.func92, Try.ntmps92
  go_wp2
  go_ret
  exact ⟨congrArg (fun q => Ending.returned (.int .i64 q)) e3, rfl⟩
end Go.Proofs.Ytphjiicdodkfbaa
