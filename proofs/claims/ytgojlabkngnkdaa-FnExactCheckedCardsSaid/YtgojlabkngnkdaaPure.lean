/-
  Plain lists of integers: what pieces are, their sum and their run. No condition; no program is spoken of here.
-/
namespace Go.Proofs.Ytgojlabkngnkdaa

theorem drop_cons (xs : List Int) (k : Nat) (h : k < xs.length) : xs.drop k = xs.getD k 0 :: xs.drop (k + 1) := by
  rw [List.drop_eq_getElem_cons h, List.getD_eq_getElem?_getD, List.getElem?_eq_getElem h]; rfl

end Go.Proofs.Ytgojlabkngnkdaa
