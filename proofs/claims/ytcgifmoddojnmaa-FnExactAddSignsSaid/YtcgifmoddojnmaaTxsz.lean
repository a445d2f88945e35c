/-
  Texts as lists of bytes. No condition.
-/
import Derived.Test.YtcgifmoddojnmaaLpz
import Derived.Deep.RegionWith
import Derived.BigRegion
import Derived.IntWalk
import Derived.Lib.OthersKept
import Derived.WalkSmall
import Derived.Laws.Runes
import Derived.Laws.RangeAny
import Derived.Laws.StandIn
namespace Go.Proofs.Ytcgifmoddojnmaa
open Go.RowKit

def bstr (l : List UInt8) : ByteArray := ⟨l.toArray⟩
theorem bstr_app (x y : List UInt8) : bstr x ++ bstr y = bstr (x ++ y) := ByteArray.mk_append_mk x y
theorem bstr_size (x : List UInt8) : (bstr x).size = x.length := by simp [bstr, ByteArray.size]
theorem ret_str {a b : ByteArray} (h : a = b) : Ending.returned (.string a) = .returned (.string b) := by rw [h]
theorem bstr_of (s : ByteArray) : ∃ a, s = bstr a := ⟨s.data.toList, by simp [bstr]⟩
theorem byte_at (l : List UInt8) (k : Nat) (hk : k < l.length) (t : TypeId) (ht : Try.prog.underlying t = some .string) (w : World) :
    (Instr.index t (.string (bstr l)) (.int .i64 (k : Int))).run Try.prog w = .ok (.int .u8 ((l.getD k 0).toNat : Int)) w := by
  have hs : (bstr l).size = l.length := bstr_size l
  rw [run_index_string (P := Try.prog) w t (bstr l) .i64 (k : Int) ht, dif_pos (by omega)]
  have e : (bstr l)[((k : Nat) : Int).toNat]'(by omega) = l.getD k 0 := by
    rw [List.getD_eq_getElem?_getD, List.getElem?_eq_getElem hk]
    simp [bstr]
    rfl
  rw [e]
theorem byte_is (l : List UInt8) (k : Nat) (hk : k < l.length) (h : k < (bstr l).size) : (bstr l)[k]'h = l.getD k 0 := by
  rw [List.getD_eq_getElem?_getD, List.getElem?_eq_getElem hk]
  simp [bstr]
  rfl
end Go.Proofs.Ytcgifmoddojnmaa
