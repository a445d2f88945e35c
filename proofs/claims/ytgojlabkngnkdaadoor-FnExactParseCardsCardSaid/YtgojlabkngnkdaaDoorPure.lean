/-
  Plain lists of integers: what pieces are, their sum and their run. No condition; no program is spoken of here.
-/
namespace Go.Proofs.YtgojlabkngnkdaaDoor

/-- Pieces: at most 20, each 1..10000, none less than the one before. -/
def Good (xs : List Int) : Prop :=
  xs.length ≤ 20 ∧ (∀ j, j < xs.length → 1 ≤ xs.getD j 0 ∧ xs.getD j 0 ≤ 10000) ∧ (∀ j, j + 1 < xs.length → xs.getD j 0 ≤ xs.getD (j + 1) 0)

theorem drop_cons (xs : List Int) (k : Nat) (h : k < xs.length) : xs.drop k = xs.getD k 0 :: xs.drop (k + 1) := by
  rw [List.drop_eq_getElem_cons h, List.getD_eq_getElem?_getD, List.getElem?_eq_getElem h]; rfl

def sumFrom : Int → List Int → Int
  | s, [] => s
  | s, a :: l => sumFrom (s + a) l

def runFrom : Int → List Int → Int
  | r, [] => r
  | r, a :: l => if r + 1 < a then r else runFrom (r + a) l

theorem sumFrom_step (xs : List Int) (k : Nat) (h : k < xs.length) (s : Int) : sumFrom s (xs.drop k) = sumFrom (s + xs.getD k 0) (xs.drop (k + 1)) := by
  rw [drop_cons xs k h, sumFrom]
theorem runFrom_step (xs : List Int) (k : Nat) (h : k < xs.length) (r : Int) (hr : ¬ r + 1 < xs.getD k 0) : runFrom r (xs.drop k) = runFrom (r + xs.getD k 0) (xs.drop (k + 1)) := by
  rw [drop_cons xs k h, runFrom, if_neg hr]
end Go.Proofs.YtgojlabkngnkdaaDoor
