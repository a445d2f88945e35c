/-
  Rulers, plainly: what a ruler is, how many pairs of marks measure each length. No condition; no program is spoken of here.
-/
import Derived.Test.YtgojlabkngnkdaaCpure
namespace Go.Proofs.Ytgojlabkngnkdaa

/-- A ruler: at least 2 marks, increasing, 0..60, the first one 0. -/
structure Rul (ms : List Int) : Prop where
  two : 2 ≤ ms.length
  ris : RisTo ms 0 60 ms.length
  zero : ms.getD 0 0 = 0
theorem Rul.lt {ms : List Int} (h : Rul ms) : ∀ (d i : Nat), i + d + 1 < ms.length → ms.getD i 0 + d < ms.getD (i + d + 1) 0 := by
  intro d
  induction d with
  | zero => intro i hi; have := h.ris.2 i hi; simpa using this
  | succ d ih =>
    intro i hi
    have h1 := ih i (by omega)
    have h2 := h.ris.2 (i + d + 1) (by omega)
    have e : i + (d + 1) + 1 = i + d + 1 + 1 := by omega
    rw [e]; omega
/-- Pairs of a mark with marks of a list. -/
def tmA (a : Int) : List Int → Int → Int
  | [], _ => 0
  | b :: t, n => (if b - a = n then 1 else 0) + tmA a t n
/-- Pairs whose first mark is one of the first i. -/
def tmF (ms : List Int) : Nat → Int → Int
  | 0, _ => 0
  | i + 1, n => tmF ms i n + tmA (ms.getD i 0) (ms.drop (i + 1)) n
/-- How many pairs measure n. -/
def tm (ms : List Int) (n : Int) : Int := tmF ms ms.length n
/-- No length below k is measured twice. -/
def SpTo (ms : List Int) (k : Nat) : Prop := ∀ j : Nat, j < k → tm ms j ≤ 1
theorem SpTo.succ {ms : List Int} {k : Nat} (h : SpTo ms k) (hk : tm ms k ≤ 1) : SpTo ms (k + 1) := fun j hj => by
  by_cases e : j = k
  · subst e; exact hk
  · exact h j (by omega)
end Go.Proofs.Ytgojlabkngnkdaa
