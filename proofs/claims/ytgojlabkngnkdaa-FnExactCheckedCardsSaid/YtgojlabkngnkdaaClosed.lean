/-
  Closed facts of the program: its own knob is unset, all of its types are laid out, and what its head says of how it was made (its signs are told one by one, so that no string is decoded). Conditions: none.
-/
import Derived.Test.YtgojlabkngnkdaaRows
import Derived.ProofKit
import Derived.Below
namespace Go.Proofs.Ytgojlabkngnkdaa
def ordL : List Char := [Char.ofNat 104, Char.ofNat 97, Char.ofNat 114, Char.ofNat 110, Char.ofNat 101, Char.ofNat 115, Char.ofNat 115, Char.ofNat 32, Char.ofNat 102, Char.ofNat 53, Char.ofNat 98, Char.ofNat 100, Char.ofNat 102, Char.ofNat 50, Char.ofNat 55, Char.ofNat 49, Char.ofNat 100, Char.ofNat 97, Char.ofNat 54, Char.ofNat 53, Char.ofNat 54, Char.ofNat 57, Char.ofNat 54, Char.ofNat 53, Char.ofNat 97, Char.ofNat 102, Char.ofNat 97, Char.ofNat 100, Char.ofNat 55, Char.ofNat 100, Char.ofNat 56, Char.ofNat 52, Char.ofNat 49, Char.ofNat 101, Char.ofNat 55, Char.ofNat 52, Char.ofNat 51, Char.ofNat 50, Char.ofNat 49, Char.ofNat 97, Char.ofNat 97, Char.ofNat 50, Char.ofNat 54, Char.ofNat 57, Char.ofNat 56, Char.ofNat 100, Char.ofNat 49, Char.ofNat 99, Char.ofNat 51, Char.ofNat 52, Char.ofNat 97, Char.ofNat 101, Char.ofNat 49, Char.ofNat 48, Char.ofNat 55, Char.ofNat 54, Char.ofNat 56, Char.ofNat 100, Char.ofNat 57, Char.ofNat 50, Char.ofNat 54, Char.ofNat 49, Char.ofNat 99, Char.ofNat 101, Char.ofNat 99, Char.ofNat 99, Char.ofNat 50, Char.ofNat 55, Char.ofNat 50, Char.ofNat 98, Char.ofNat 99, Char.ofNat 98, Char.ofNat 32, Char.ofNat 99, Char.ofNat 117, Char.ofNat 116, Char.ofNat 32, Char.ofNat 97, Char.ofNat 116, Char.ofNat 32, Char.ofNat 108, Char.ofNat 111, Char.ofNat 111, Char.ofNat 112, Char.ofNat 46, Char.ofNat 101, Char.ofNat 120, Char.ofNat 97, Char.ofNat 109, Char.ofNat 112, Char.ofNat 108, Char.ofNat 101, Char.ofNat 47, Char.ofNat 103, Char.ofNat 48, Char.ofNat 49, Char.ofNat 51, Char.ofNat 48, Char.ofNat 53, Char.ofNat 47, Char.ofNat 108, Char.ofNat 97, Char.ofNat 119, Char.ofNat 115, Char.ofNat 46, Char.ofNat 70, Char.ofNat 110, Char.ofNat 69, Char.ofNat 120, Char.ofNat 97, Char.ofNat 99, Char.ofNat 116, Char.ofNat 70, Char.ofNat 105, Char.ofNat 114, Char.ofNat 115, Char.ofNat 116, Char.ofNat 68, Char.ofNat 101, Char.ofNat 115, Char.ofNat 107, Char.ofNat 32, Char.ofNat 108, Char.ofNat 111, Char.ofNat 111, Char.ofNat 112, Char.ofNat 46, Char.ofNat 101, Char.ofNat 120, Char.ofNat 97, Char.ofNat 109, Char.ofNat 112, Char.ofNat 108, Char.ofNat 101, Char.ofNat 47, Char.ofNat 103, Char.ofNat 48, Char.ofNat 49, Char.ofNat 51, Char.ofNat 48, Char.ofNat 53, Char.ofNat 47, Char.ofNat 108, Char.ofNat 97, Char.ofNat 119, Char.ofNat 115, Char.ofNat 46, Char.ofNat 70, Char.ofNat 110, Char.ofNat 69, Char.ofNat 120, Char.ofNat 97, Char.ofNat 99, Char.ofNat 116, Char.ofNat 73, Char.ofNat 115, Char.ofNat 68, Char.ofNat 101, Char.ofNat 115, Char.ofNat 107, Char.ofNat 32, Char.ofNat 108, Char.ofNat 111, Char.ofNat 111, Char.ofNat 112, Char.ofNat 46, Char.ofNat 101, Char.ofNat 120, Char.ofNat 97, Char.ofNat 109, Char.ofNat 112, Char.ofNat 108, Char.ofNat 101, Char.ofNat 47, Char.ofNat 103, Char.ofNat 48, Char.ofNat 49, Char.ofNat 51, Char.ofNat 48, Char.ofNat 53, Char.ofNat 47, Char.ofNat 108, Char.ofNat 97, Char.ofNat 119, Char.ofNat 115, Char.ofNat 46, Char.ofNat 70, Char.ofNat 110, Char.ofNat 69, Char.ofNat 120, Char.ofNat 97, Char.ofNat 99, Char.ofNat 116, Char.ofNat 67, Char.ofNat 104, Char.ofNat 101, Char.ofNat 99, Char.ofNat 107, Char.ofNat 101, Char.ofNat 100, Char.ofNat 67, Char.ofNat 97, Char.ofNat 114, Char.ofNat 100, Char.ofNat 115, Char.ofNat 32, Char.ofNat 108, Char.ofNat 111, Char.ofNat 111, Char.ofNat 112, Char.ofNat 46, Char.ofNat 101, Char.ofNat 120, Char.ofNat 97, Char.ofNat 109, Char.ofNat 112, Char.ofNat 108, Char.ofNat 101, Char.ofNat 47, Char.ofNat 103, Char.ofNat 48, Char.ofNat 49, Char.ofNat 51, Char.ofNat 48, Char.ofNat 53, Char.ofNat 47, Char.ofNat 108, Char.ofNat 97, Char.ofNat 119, Char.ofNat 115, Char.ofNat 46, Char.ofNat 70, Char.ofNat 110, Char.ofNat 69, Char.ofNat 120, Char.ofNat 97, Char.ofNat 99, Char.ofNat 116, Char.ofNat 65, Char.ofNat 100, Char.ofNat 100, Char.ofNat 67, Char.ofNat 108, Char.ofNat 117, Char.ofNat 101]
theorem orderB : Try.prog.initOrder.toByteArray = (String.ofList ordL).toByteArray := by kernel_rfl
theorem order : Try.prog.initOrder = String.ofList ordL := String.toByteArray_inj.1 orderB
def cutW : List Char := [Char.ofNat 99, Char.ofNat 117, Char.ofNat 116]
def restW : List (List Char) := wordsSigns (ordL.drop 77)
theorem wordsT : behindMainWord (wordsSigns ordL) = cutW :: restW := by kernel_rfl
theorem wd1 : (cutW == "gc".toList) = false := by kernel_rfl
theorem wd2 : (cutW == "spec".toList) = false := by kernel_rfl
theorem wd3 : (cutW == "carried".toList) = false := by kernel_rfl
theorem wd4 : stripLifts liftWords (cutW :: restW) = ([], cutW :: restW) := by kernel_rfl
theorem wd5 : (some cutW == some "cut".toList) = true := by kernel_rfl
theorem wd6 : (cutW == "cut".toList) = true := by kernel_rfl
theorem wd7 : Try.prog.laysLater = false := by kernel_rfl
theorem wd8 : Try.prog.bearsReflect = false := by kernel_rfl
theorem wd9 : Try.prog.doorFits [] = true := by kernel_rfl
theorem enter_of (P : Program) (h : P.initOrder = String.ofList ordL) (h7 : P.laysLater = false) (h8 : P.bearsReflect = false) (h9 : P.doorFits [] = true) : P.mayEnter = true := by
  unfold Program.mayEnter
  rw [h, String.toList_ofList, wordsT]
  simp only [wd1, wd2, wd3, wd4, wd5, h7, h8, h9, List.head?_cons, List.contains_nil, Bool.false_and, Bool.or_false, Bool.not_false, Bool.and_true, Bool.or_true]
theorem make_of (P : Program) (h : P.initOrder = String.ofList ordL) : P.make = some .cut := by
  unfold Program.make
  rw [h, String.toList_ofList, wordsT]
  simp only [wd1, wd2, wd6, Bool.or_self, Bool.true_or, if_true, Bool.false_eq_true, if_false]
theorem enterT : Try.pinned.checked.prog.mayEnter = true := enter_of Try.prog order wd7 wd8 wd9
theorem makeT : Try.pinned.checked.prog.make = some Rows.fnExactFirstDeskRow.make := make_of Try.prog order
theorem finalT : Try.pinned.checked.prog.liftsFinal = false := by
  show Try.prog.liftsFinal = false
  unfold Program.liftsFinal Program.headLifts
  rw [order, String.toList_ofList]
  kernel_rfl
theorem ownT : ownKnob Try.prog.godebug = none := by kernel_rfl
theorem laidOutT : laidOutB Try.prog = true := by kernel_rfl
end Go.Proofs.Ytgojlabkngnkdaa
