/-
  Numerals and texts of pieces as lists of bytes. No program in this text.
-/
import Derived.Test.YtnbbfpanidmpgaaDoorGoot
import Derived.Lib.ItoaNum
import Derived.Lib.Join
namespace Go.Proofs.YtnbbfpanidmpgaaDoor
open Go.RowKit

def bstr (l : List UInt8) : ByteArray := ⟨l.toArray⟩
theorem bstr_app (x y : List UInt8) : bstr x ++ bstr y = bstr (x ++ y) := ByteArray.mk_append_mk x y
theorem bstr_size (x : List UInt8) : (bstr x).size = x.length := by simp [bstr, ByteArray.size]
theorem ret_str {a b : ByteArray} (h : a = b) : Ending.returned (.string a) = .returned (.string b) := by rw [h]

theorem digits_le : ∀ n : Nat, (Lib.decDigits n).length ≤ n + 1 := by
  intro n
  induction n using Nat.strongRecOn with
  | ind n ih =>
    by_cases h : n < 10
    · rw [Lib.decDigits_one h]; simp
    · rw [Lib.decDigits, dif_neg h]
      have := ih (n / 10) (by omega)
      simp only [List.length_append, List.length_singleton]
      omega
theorem digits_small {n : Nat} (h : n < 10) : bstr [UInt8.ofNat (48 + n)] = bstr (Lib.decDigits n) := by rw [Lib.decDigits_one h]
theorem digits_big {n : Nat} (h : ¬ n < 10) : bstr (Lib.decDigits (n / 10)) ++ bstr [UInt8.ofNat (48 + n % 10)] = bstr (Lib.decDigits n) := by
  rw [bstr_app, Lib.decDigits.eq_1 n, dif_neg h]

def dd (x : Int) : List UInt8 := Lib.decDigits x.toNat
/-- The text of the first k numbers. -/
def txtK (xs : List Int) (k : Nat) : List UInt8 := Lib.join ((xs.take k).map dd) [43]
def txtP (xs : List Int) : List UInt8 := if xs.length = 0 then [48] else txtK xs xs.length
theorem txtK_zero (xs : List Int) : txtK xs 0 = [] := by simp [txtK, Lib.join_nil]
theorem take_snoc {xs : List Int} {k : Nat} {x : Int} (hk : k < xs.length) (hx : xs.getD k 0 = x) : xs.take (k + 1) = xs.take k ++ [x] := by
  rw [List.take_add_one, List.getElem?_eq_getElem hk]
  rw [List.getD_eq_getElem?_getD, List.getElem?_eq_getElem hk] at hx
  simp only [Option.getD_some] at hx
  rw [hx]
  rfl
theorem join_snoc (ls : List (List UInt8)) (x sep : List UInt8) (h : ls ≠ []) : Lib.join (ls ++ [x]) sep = Lib.join ls sep ++ sep ++ x := by
  cases ls with
  | nil => exact absurd rfl h
  | cons a t => rw [List.cons_append, Lib.join_cons, Lib.join_cons]; simp [Lib.joinTail]
theorem txtK_one {xs : List Int} {x : Int} (hk : 0 < xs.length) (hx : xs.getD 0 0 = x) : txtK xs 1 = dd x := by
  unfold txtK
  rw [take_snoc hk hx]
  simp [Lib.join_one]
theorem txtK_succ {xs : List Int} {k : Nat} {x : Int} (h0 : 0 < k) (hk : k < xs.length) (hx : xs.getD k 0 = x) : txtK xs (k + 1) = txtK xs k ++ [43] ++ dd x := by
  unfold txtK
  rw [take_snoc hk hx, List.map_append, List.map_singleton, join_snoc]
  intro e
  have := congrArg List.length e
  simp only [List.length_map, List.length_take, List.length_nil] at this
  omega
theorem dd_len {x : Int} (h : x ≤ 10000) : (dd x).length ≤ 10001 := by
  have := digits_le x.toNat
  unfold dd
  omega


end Go.Proofs.YtnbbfpanidmpgaaDoor
