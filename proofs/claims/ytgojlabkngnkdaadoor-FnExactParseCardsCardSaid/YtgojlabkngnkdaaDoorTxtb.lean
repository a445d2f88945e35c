/-
  The text of pieces in the model, by its contract. Condition: the numbers are pieces.
-/
import Derived.Test.YtgojlabkngnkdaaDoorTxt
import Derived.Lib.Join
namespace Go.Proofs.YtgojlabkngnkdaaDoor
open Go.RowKit

def dd (x : Int) : List UInt8 := Lib.decDigits x.toNat
/-- The text of the first k numbers. -/
def txtK (xs : List Int) (k : Nat) : List UInt8 := Lib.join ((xs.take k).map dd) [43]
theorem txtK_zero (xs : List Int) : txtK xs 0 = [] := by simp [txtK, Lib.join_nil]
theorem take_snoc {xs : List Int} {k : Nat} {x : Int} (hk : k < xs.length) (hx : xs.getD k 0 = x) : xs.take (k + 1) = xs.take k ++ [x] := by
  rw [List.take_add_one, List.getElem?_eq_getElem hk]
  rw [List.getD_eq_getElem?_getD, List.getElem?_eq_getElem hk] at hx
  simp only [Option.getD_some] at hx
  rw [hx]
  rfl
theorem join_snoc (ls : List (List UInt8)) (x sep : List UInt8) (h : ls ≠ []) : Lib.join (ls ++ [x]) sep = Lib.join ls sep ++ sep ++ x := by
  cases ls with
  | nil => exact absurd rfl h
  | cons a t => rw [List.cons_append, Lib.join_cons, Lib.join_cons]; simp [Lib.joinTail]
theorem txtK_one {xs : List Int} {x : Int} (hk : 0 < xs.length) (hx : xs.getD 0 0 = x) : txtK xs 1 = dd x := by
  unfold txtK
  rw [take_snoc hk hx]
  simp [Lib.join_one]
theorem txtK_succ {xs : List Int} {k : Nat} {x : Int} (h0 : 0 < k) (hk : k < xs.length) (hx : xs.getD k 0 = x) : txtK xs (k + 1) = txtK xs k ++ [43] ++ dd x := by
  unfold txtK
  rw [take_snoc hk hx, List.map_append, List.map_singleton, join_snoc]
  intro e
  have := congrArg List.length e
  simp only [List.length_map, List.length_take, List.length_nil] at this
  omega
theorem dd_len {x : Int} (h : x ≤ 10000) : (dd x).length ≤ 10001 := by
  have := digits_le x.toNat
  unfold dd
  omega

/-- The state at k: the text so far, and its size. -/
def TxtAt (xs : List Int) (k : Nat) (S : ByteArray) : Prop := S = bstr (txtK xs k)
theorem TxtAt.first {xs : List Int} {x : Int} (hk : 0 < xs.length) (hx : xs.getD 0 0 = x) {S : ByteArray} (h : TxtAt xs 0 S) : TxtAt xs (0 + 1) (S ++ bstr (dd x)) := by
  unfold TxtAt at *
  rw [h, txtK_zero, bstr_app, List.nil_append, txtK_one hk hx]
theorem TxtAt.next {xs : List Int} {k : Nat} {x : Int} (h0 : 0 < k) (hk : k < xs.length) (hx : xs.getD k 0 = x) {S : ByteArray} (h : TxtAt xs k S) : TxtAt xs (k + 1) (S ++ ⟨#[43]⟩ ++ bstr (dd x)) := by
  unfold TxtAt at *
  have e : (⟨#[43]⟩ : ByteArray) = bstr [43] := rfl
  rw [h, e, bstr_app, bstr_app, txtK_succ h0 hk hx]
end Go.Proofs.YtgojlabkngnkdaaDoor
