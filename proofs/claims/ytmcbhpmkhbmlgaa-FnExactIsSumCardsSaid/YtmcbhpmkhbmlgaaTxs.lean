/-
  Texts as lists of bytes. No condition.
-/
import Derived.Test.YtmcbhpmkhbmlgaaCat4
import Derived.Deep.RegionWith
import Derived.BigRegion
import Derived.IntWalk
namespace Go.Proofs.Ytmcbhpmkhbmlgaa
open Go.RowKit

def bstr (l : List UInt8) : ByteArray := ⟨l.toArray⟩
theorem bstr_app (x y : List UInt8) : bstr x ++ bstr y = bstr (x ++ y) := ByteArray.mk_append_mk x y
theorem bstr_size (x : List UInt8) : (bstr x).size = x.length := by simp [bstr, ByteArray.size]
theorem ret_str {a b : ByteArray} (h : a = b) : Ending.returned (.string a) = .returned (.string b) := by rw [h]
theorem bstr_of (s : ByteArray) : ∃ a, s = bstr a := ⟨s.data.toList, by simp [bstr]⟩
end Go.Proofs.Ytmcbhpmkhbmlgaa
