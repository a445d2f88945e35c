/-
  Clues and hidden pieces, pure: what a clue is, what it tells, all hidden pieces in order, those that fit. No program in it.
-/
import Derived.Test.YtgojlabkngnkdaaDoorWays
namespace Go.Proofs.YtgojlabkngnkdaaDoor
open Go.RowKit

/-- A clue's numbers. -/
structure Cl where
  k : Int
  a : Int
  b : Int
def clL (k : Int) : Int := if k = 5 then 1 else 0
def clM (k : Int) : Int := if k = 0 then 4 else if k = 5 then 6 else 24
def clQ (k : Int) : Int := if k = 2 then 1 else if k = 4 then 16 else if k = 5 then 4 else 0
def clB (c : Cl) : Bool := inB c.k 0 5 && (inB c.a (clL c.k) (clM c.k) && inB c.b 0 (clQ c.k))
theorem clB_parts {c : Cl} (h : clB c = true) : (0 ≤ c.k ∧ c.k ≤ 5) ∧ (clL c.k ≤ c.a ∧ c.a ≤ clM c.k) ∧ 0 ≤ c.b ∧ c.b ≤ clQ c.k := by
  simp only [clB, Bool.and_eq_true, inB_iff] at h; exact h
theorem k_cases {k : Int} (h : 0 ≤ k ∧ k ≤ 5) : k = 0 ∨ k = 1 ∨ k = 2 ∨ k = 3 ∨ k = 4 ∨ k = 5 := by omega
def HdOk (xs : List Int) : Prop := xs.length ≤ 4 ∧ (∀ j, j < xs.length → 1 ≤ xs.getD j 0 ∧ xs.getD j 0 ≤ 6) ∧ UpTo xs xs.length
theorem HdOk.nil : HdOk [] := ⟨by simp, fun j hj => by simp at hj, fun j hj => by simp at hj⟩
/-- The last piece, 1 if there is none. -/
def lstL (b : List Int) : Int := if b = [] then 1 else b.getD (b.length - 1) 0
/-- What is listed for p, p + 1, ..: so many of them. -/
def upF {α : Type} (G : Int → List α) : Nat → Int → List α
  | 0, _ => []
  | d + 1, p => G p ++ upF G d (p + 1)
/-- All that begin with b, up to k pieces longer. -/
def hs : Nat → List Int → List (List Int)
  | 0, b => [b]
  | k + 1, b => b :: upF (fun n => hs k (b ++ [n])) (7 - lstL b).toNat (lstL b)
def pzB (cs : List Cl) : Bool := decide (cs.length ≤ 6) && cs.all clB
end Go.Proofs.YtgojlabkngnkdaaDoor
