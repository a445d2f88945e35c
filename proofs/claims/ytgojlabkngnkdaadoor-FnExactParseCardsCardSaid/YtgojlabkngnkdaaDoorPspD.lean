/-
  Texts of pieces, told as lists of bytes: words between the signs +, numerals, and what a text reads as. No program in this text.
-/
import Derived.Test.YtgojlabkngnkdaaDoorTxtb
import Derived.Lib.AtoiTie
import Derived.Lib.Split
import Derived.Lib.SplitLaws
namespace Go.Proofs.YtgojlabkngnkdaaDoor
open Go.RowKit

/-- p in front of the first word. -/
def prep (p : List UInt8) : List (List UInt8) → List (List UInt8)
  | [] => [p]
  | a :: t => (p ++ a) :: t
/-- The words of a text. -/
def splitW : List UInt8 → List (List UInt8)
  | [] => [[]]
  | b :: r => if b = 43 then [] :: splitW r else prep [b] (splitW r)
theorem splitW_ne (l : List UInt8) : splitW l ≠ [] := by
  cases l with
  | nil => simp [splitW]
  | cons b r =>
    unfold splitW
    split
    · simp
    · unfold prep; split <;> simp
theorem prep_nil {ls : List (List UInt8)} (h : ls ≠ []) : prep [] ls = ls := by
  cases ls with
  | nil => exact absurd rfl h
  | cons a t => rfl
theorem prep_prep (p q : List UInt8) (ls : List (List UInt8)) : prep p (prep q ls) = prep (p ++ q) ls := by
  cases ls with
  | nil => rfl
  | cons a t => simp [prep]
/-- The words out of the first i bytes, where the last one begins at from. -/
def SplAt (l : List UInt8) (i frm : Nat) (out : List (List UInt8)) : Prop := frm ≤ i ∧ i ≤ l.length ∧ splitW l = out ++ prep ((l.take i).drop frm) (splitW (l.drop i))
theorem SplAt.zero (l : List UInt8) : SplAt l 0 0 [] := ⟨Nat.le_refl _, Nat.zero_le _, by simp [prep_nil (splitW_ne l)]⟩
theorem SplAt.step {l : List UInt8} {i frm : Nat} {out : List (List UInt8)} (h : SplAt l i frm out) (hi : i < l.length) (hb : ¬ l.getD i 0 = 43) : SplAt l (i + 1) frm out := by
  obtain ⟨h1, h2, h3⟩ := h
  refine ⟨by omega, hi, ?_⟩
  have e : l.drop i = l.getD i 0 :: l.drop (i + 1) := by
    rw [List.drop_eq_getElem_cons hi, List.getD_eq_getElem?_getD, List.getElem?_eq_getElem hi]; rfl
  have e2 : (l.take (i + 1)).drop frm = (l.take i).drop frm ++ [l.getD i 0] := by
    rw [List.take_add_one, List.getElem?_eq_getElem hi, List.drop_append_of_le_length (by simp; omega), List.getD_eq_getElem?_getD, List.getElem?_eq_getElem hi]; rfl
  rw [h3, e, splitW, if_neg hb, prep_prep, e2]
/-- The words, put together again. -/
theorem joinTail_cons (sep y : List UInt8) (r : List (List UInt8)) : Lib.joinTail sep (y :: r) = sep ++ y ++ Lib.joinTail sep r := by simp [Lib.joinTail]
end Go.Proofs.YtgojlabkngnkdaaDoor
