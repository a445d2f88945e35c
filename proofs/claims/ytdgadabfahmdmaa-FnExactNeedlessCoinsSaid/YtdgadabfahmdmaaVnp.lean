/-
  NeedlessCoins in the model and in the program, by their contracts. Condition: slices of at most 2^40 numbers.
-/
import Derived.Test.YtdgadabfahmdmaaVfc
import Derived.Test.YtdgadabfahmdmaaVbs
import Derived.Test.YtdgadabfahmdmaaVcx
import Derived.Deep.RegionWith
import Derived.Deep.DeepMust
namespace Go.Proofs.Ytdgadabfahmdmaa
open Go.RowKit

def rmN (cs : List Nat) (k : Nat) : List Nat := cs.take k ++ cs.drop (k + 1)
theorem rm_iL (cs : List Nat) (k : Nat) : (iL cs).take k ++ (iL cs).drop (k + 1) = iL (rmN cs k) := by rw [iL_take, iL_drop, iL_app, rmN]
theorem rm_mem {cs : List Nat} {k c : Nat} (h : c ∈ rmN cs k) : c ∈ cs := by
  rcases List.mem_append.1 h with h | h
  · exact List.mem_of_mem_take h
  · exact List.mem_of_mem_drop h
theorem rm_pos {cs : List Nat} (hp : Pos cs) (k : Nat) : Pos (rmN cs k) := fun c hc => hp c (rm_mem hc)
theorem rm_len (cs : List Nat) (k : Nat) : (rmN cs k).length ≤ cs.length := by
  simp only [rmN, List.length_append, List.length_take, List.length_drop]; omega
noncomputable def ndT (cs : List Nat) : Nat → List Nat
  | 0 => []
  | k + 1 => ndT cs k ++ (if fo (rmN cs k) (cs.getD k 0) < big then [cs.getD k 0] else [])
theorem ndT_yes {cs : List Nat} {k c : Nat} (ec : cs.getD k 0 = c) (h : fo (rmN cs k) c < big) : iL (ndT cs (k + 1)) = iL (ndT cs k) ++ [(c : Int)] := by
  rw [ndT, ec, if_pos h]; simp [iL]
theorem ndT_no {cs : List Nat} {k c : Nat} (ec : cs.getD k 0 = c) (h : ¬ fo (rmN cs k) c < big) : iL (ndT cs (k + 1)) = iL (ndT cs k) := by
  rw [ndT, ec, if_neg h, List.append_nil]
theorem ndT_len (cs : List Nat) : ∀ k, (ndT cs k).length ≤ k := by
  intro k
  induction k with
  | zero => simp [ndT]
  | succ k ih =>
    rw [ndT, List.length_append]
    split <;> simp <;> omega
noncomputable def neR (xs : List Int) : List Int := if cnsB xs = true then iL (ndT (nL xs) xs.length) else []
theorem neR_no {xs : List Int} (h : cnsB xs = false) : neR xs = [] := by simp [neR, h]
theorem neR_yes {cs : List Nat} (h : cnsB (iL cs) = true) : neR (iL cs) = iL (ndT cs (iL cs).length) := by simp [neR, h, nL_iL]
theorem neR_len (xs : List Int) (h : xs.length ≤ 1099511627776) : (neR xs).length ≤ 1099511627776 := by
  unfold neR
  split
  · have := ndT_len (nL xs) xs.length
    rw [iL_len]; omega
  · simp
theorem ret_lbl {v : Value} {a b : Bool} (h : a = b) : Ending.returned (.tuple #[v, .bool a]) = .returned (.tuple #[v, .bool b]) := by rw [h]
end Go.Proofs.Ytdgadabfahmdmaa
