/-
  The law on AddSigns, walked: whatever comes in, it returns true and writes nothing that was there. No condition.
-/
import Derived.Test.YtcgifmoddojnmaaZad
namespace Go.Proofs.Ytcgifmoddojnmaa
open Go.RowKit

set_option maxHeartbeats 4000000 in
theorem lawAddSigns (s0 : ByteArray) (s1 : ByteArray) (w : World) :
    Calls Try.prog 16 #[.string s0, .string s1] w fun e w' => e = .returned (.bool true) ∧ Below w.heap.size w w' := by
  by_cases hbig0 : 1048576 < s0.size
  · go_enter Try.func16, Try.ntmps16
    go_wp2
    go_ret
    exact ⟨rfl, Below.refl _ _⟩
  obtain ⟨tx0, rfl⟩ := bstr_of s0
  have l0 : tx0.length ≤ 1048576 := by have := bstr_size tx0; omega
  have HL0 := Lib.hid l0
  clear l0
  by_cases hbig1 : 1048576 < s1.size
  · go_enter Try.func16, Try.ntmps16
    go_wp2
    go_ret
    exact ⟨rfl, Below.refl _ _⟩
  obtain ⟨tx1, rfl⟩ := bstr_of s1
  have l1 : tx1.length ≤ 1048576 := by have := bstr_size tx1; omega
  have HL1 := Lib.hid l1
  clear l1
  go_enter Try.func16, Try.ntmps16
  go_wp2_with fail
  refine (specAddSigns_any tx0 tx1 _ HL0.out HL1.out).mono ?_
  rintro e w2 ⟨rfl, b2⟩
  have t1 := nxt (Below.refl w.heap.size w) b2
  go_wp2_with fail
  refine (implAddSigns_any tx0 tx1 _ HL0.out HL1.out).mono ?_
  rintro e w4 ⟨rfl, b4⟩
  have t2 := nxt t1 b4
  go_wp2_with fail
  go_ret
  exact ⟨rfl, t2⟩

end Go.Proofs.Ytcgifmoddojnmaa
