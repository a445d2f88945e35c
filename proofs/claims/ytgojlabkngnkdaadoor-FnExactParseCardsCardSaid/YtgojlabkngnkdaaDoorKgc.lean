/-
  Cards in the model: at how many places answers differ, and at which last one, by contract. Condition: the first text has at most 1000 signs, all of one byte, the second as many or more.
-/
import Derived.Test.YtgojlabkngnkdaaDoorKga
import Derived.Test.YtgojlabkngnkdaaDoorTxt
import Derived.Lib.OthersKept
import Derived.WalkSmall
namespace Go.Proofs.YtgojlabkngnkdaaDoor
open Go.RowKit

theorem byte_at (l : List UInt8) (k : Nat) (hk : k < l.length) (t : TypeId) (ht : Tryd.prog.underlying t = some .string) (w : World) :
    (Instr.index t (.string (bstr l)) (.int .i64 (k : Int))).run Tryd.prog w = .ok (.int .u8 ((l.getD k 0).toNat : Int)) w := by
  have hs : (bstr l).size = l.length := bstr_size l
  rw [run_index_string (P := Tryd.prog) w t (bstr l) .i64 (k : Int) ht, dif_pos (by omega)]
  have e : (bstr l)[((k : Nat) : Int).toNat]'(by omega) = l.getD k 0 := by
    rw [List.getD_eq_getElem?_getD, List.getElem?_eq_getElem hk]
    simp [bstr]
    rfl
  rw [e]
end Go.Proofs.YtgojlabkngnkdaaDoor
