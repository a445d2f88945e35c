/-
  The model's split of a text into words, by its contract. Condition: a text of at most 2^30 bytes.
-/
import Derived.Test.YtgojlabkngnkdaaDoorWstD
namespace Go.Proofs.YtgojlabkngnkdaaDoor
open Go.RowKit

theorem byte_at (l : List UInt8) (k : Nat) (hk : k < l.length) (t : TypeId) (ht : Tryd.prog.underlying t = some .string) (w : World) :
    (Instr.index t (.string (bstr l)) (.int .i64 (k : Int))).run Tryd.prog w = .ok (.int .u8 ((l.getD k 0).toNat : Int)) w := by
  have hs : (bstr l).size = l.length := bstr_size l
  rw [run_index_string (P := Tryd.prog) w t (bstr l) .i64 (k : Int) ht, dif_pos (by omega)]
  have e : (bstr l)[((k : Nat) : Int).toNat]'(by omega) = l.getD k 0 := by
    rw [List.getD_eq_getElem?_getD, List.getElem?_eq_getElem hk]
    simp [bstr]
    rfl
  rw [e]
theorem cut_at (l : List UInt8) (i j : Nat) (h1 : i ≤ j) (h2 : j ≤ l.length) (t : TypeId) (ht : Tryd.prog.underlying t = some .string) (w : World) :
    (Instr.slice t (.string (bstr l)) (some (.int .i64 (i : Int))) (some (.int .i64 (j : Int))) none).run Tryd.prog w = .ok (.string (bstr ((l.take j).drop i))) w := by
  rw [run_slice_string (P := Tryd.prog) w t (bstr l) .i64 .i64 (i : Int) (j : Int) ht (by omega) (by omega) (by rw [bstr_size]; omega)]
  have e : (bstr l).extract ((i : Int).toNat) ((j : Int).toNat) = bstr ((l.take j).drop i) := by
    rw [show ((i : Int)).toNat = i by omega, show ((j : Int)).toNat = j by omega]
    unfold bstr
    rw [ByteArray.extract_mk, List.drop_take]
  rw [e]
theorem cut_from (l : List UInt8) (i : Nat) (h1 : i ≤ l.length) (t : TypeId) (ht : Tryd.prog.underlying t = some .string) (w : World) :
    (Instr.slice t (.string (bstr l)) (some (.int .i64 (i : Int))) none none).run Tryd.prog w = .ok (.string (bstr (l.drop i))) w := by
  rw [run_slice_string_from_if (P := Tryd.prog) w t (bstr l) .i64 (i : Int) ht, if_pos (by rw [bstr_size]; omega)]
  have e : (bstr l).extract ((i : Int).toNat) (bstr l).size = bstr (l.drop i) := by
    rw [show ((i : Int)).toNat = i by omega, bstr_size]
    unfold bstr
    rw [ByteArray.extract_mk, List.take_of_length_le (by simp)]
  rw [e]
end Go.Proofs.YtgojlabkngnkdaaDoor
