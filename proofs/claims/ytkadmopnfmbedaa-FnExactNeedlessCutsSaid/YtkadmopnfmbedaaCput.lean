/-
  Plain lists of integers: a number is put into a sorted list. No condition; no program is spoken of here.
-/
import Derived.Test.YtkadmopnfmbedaaPutd
import Derived.Test.YtkadmopnfmbedaaCmore
namespace Go.Proofs.Ytkadmopnfmbedaa

theorem cut_ex (n : Int) : ∀ ys : List Int, ys.Pairwise (fun x y => x ≤ y) → ∃ k, Cut ys n k := by
  intro ys
  induction ys with
  | nil => intro _; exact ⟨0, by simp, fun j hj => by omega, fun j _ hj => by simp at hj⟩
  | cons a l ih =>
    intro h
    obtain ⟨h1, h2⟩ := List.pairwise_cons.1 h
    by_cases ha : a ≤ n
    · obtain ⟨k, hk⟩ := ih h2
      refine ⟨k + 1, by have := hk.le; simp; omega, fun j hj => ?_, fun j hj hl => ?_⟩
      · cases j with
        | zero => simpa using ha
        | succ j => simpa using hk.lo j (by omega)
      · cases j with
        | zero => omega
        | succ j => simpa using hk.hi j (by omega) (by simpa using hl)
    · refine ⟨0, by simp, fun j hj => by omega, fun j _ hj => ?_⟩
      cases j with
      | zero => simp; omega
      | succ j =>
        have hm : l.getD j 0 ∈ l := by
          have hj' : j < l.length := by simpa using hj
          rw [List.getD_eq_getElem?_getD, List.getElem?_eq_getElem hj']; simp
        have := h1 _ hm
        simp only [List.getD_cons_succ]; omega
theorem mem_getD {l : List Int} {x : Int} (h : x ∈ l) : ∃ j, j < l.length ∧ l.getD j 0 = x := by
  obtain ⟨j, hj, rfl⟩ := List.getElem_of_mem h
  exact ⟨j, hj, by rw [List.getD_eq_getElem?_getD, List.getElem?_eq_getElem hj]; rfl⟩
theorem putL_sort (l : List Int) (n : Int) : putL (sortL l) n = sortL (l ++ [n]) := by
  obtain ⟨k, hk⟩ := cut_ex n (sortL l) (sortL_pw l)
  rw [putL_eq hk]
  refine sortL_eq ?_ ?_
  · unfold insAt
    have hp := sortL_pw l
    have ht : ∀ x ∈ (sortL l).take k, x ≤ n := fun x hx => by
      obtain ⟨j, hj, e⟩ := mem_getD hx
      rw [List.length_take] at hj
      have := hk.lo j (by omega)
      rw [← e, List.getD_eq_getElem?_getD, List.getElem?_take, if_pos (by omega), ← List.getD_eq_getElem?_getD]; exact this
    have hd : ∀ x ∈ (sortL l).drop k, n ≤ x := fun x hx => by
      obtain ⟨j, hj, e⟩ := mem_getD hx
      rw [List.length_drop] at hj
      have := hk.hi (k + j) (by omega) (by omega)
      rw [← e, List.getD_eq_getElem?_getD, List.getElem?_drop, ← List.getD_eq_getElem?_getD]; exact this
    refine List.pairwise_append.2 ⟨List.pairwise_append.2 ⟨hp.sublist (List.take_sublist _ _), by simp, fun a ha b hb => ?_⟩, hp.sublist (List.drop_sublist _ _), fun a ha b hb => ?_⟩
    · obtain rfl : b = n := by simpa using hb
      exact ht a ha
    · rcases List.mem_append.1 ha with ha | ha
      · have := ht a ha; have := hd b hb; omega
      · obtain rfl : a = n := by simpa using ha
        exact hd b hb
  · unfold insAt
    have h1 : ((sortL l).take k ++ [n] ++ (sortL l).drop k).Perm ((sortL l).take k ++ (sortL l).drop k ++ [n]) := by
      rw [List.append_assoc, List.append_assoc]
      exact List.Perm.append_left _ List.perm_append_comm
    rw [List.take_append_drop] at h1
    exact h1.trans (List.Perm.append_right _ (sortL_perm l))
theorem sortL_step (zs : List Int) (k : Nat) (h : k < zs.length) : putL (sortL (zs.take k)) (zs.getD k 0) = sortL (zs.take (k + 1)) := by
  rw [putL_sort, List.take_add_one, List.getElem?_eq_getElem h, List.getD_eq_getElem?_getD, List.getElem?_eq_getElem h]; rfl
theorem good_take {zs : List Int} (h1 : zs.length ≤ 20) (h2 : ∀ x ∈ zs, 1 ≤ x ∧ x ≤ 10000) (k : Nat) : Good (sortL (zs.take k)) :=
  good_sortL (by rw [List.length_take]; omega) fun x hx => h2 x (List.mem_of_mem_take hx)

end Go.Proofs.Ytkadmopnfmbedaa
