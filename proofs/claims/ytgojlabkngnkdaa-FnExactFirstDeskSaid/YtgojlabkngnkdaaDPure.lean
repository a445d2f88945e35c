/-
  Plain lists of integers: what pieces are, their sum and their run. No condition; no program is spoken of here.
-/
namespace Go.Proofs.Ytgojlabkngnkdaa

/-- Pieces: at most 20, each 1..10000, none less than the one before. -/
def Good (xs : List Int) : Prop :=
  xs.length ≤ 20 ∧ (∀ j, j < xs.length → 1 ≤ xs.getD j 0 ∧ xs.getD j 0 ≤ 10000) ∧ (∀ j, j + 1 < xs.length → xs.getD j 0 ≤ xs.getD (j + 1) 0)

theorem drop_cons (xs : List Int) (k : Nat) (h : k < xs.length) : xs.drop k = xs.getD k 0 :: xs.drop (k + 1) := by
  rw [List.drop_eq_getElem_cons h, List.getD_eq_getElem?_getD, List.getElem?_eq_getElem h]; rfl

end Go.Proofs.Ytgojlabkngnkdaa
