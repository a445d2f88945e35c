/-
  Words between points: the texts on words between plus signs said of another sign. No program in this text.
-/
import Derived.Test.YtgojlabkngnkdaaDoorYpi
import Derived.Test.YtgojlabkngnkdaaDoorPsrD
import Derived.Test.YtgojlabkngnkdaaDoorPimD
namespace Go.Proofs.YtgojlabkngnkdaaDoor.P
open Go.RowKit

/-- p in front of the first word. -/
def prep (p : List UInt8) : List (List UInt8) → List (List UInt8)
  | [] => [p]
  | a :: t => (p ++ a) :: t
/-- The words of a text. -/
def splitW : List UInt8 → List (List UInt8)
  | [] => [[]]
  | b :: r => if b = 46 then [] :: splitW r else prep [b] (splitW r)
theorem splitW_ne (l : List UInt8) : splitW l ≠ [] := by
  cases l with
  | nil => simp [splitW]
  | cons b r =>
    unfold splitW
    split
    · simp
    · unfold prep; split <;> simp
theorem prep_nil {ls : List (List UInt8)} (h : ls ≠ []) : prep [] ls = ls := by
  cases ls with
  | nil => exact absurd rfl h
  | cons a t => rfl
theorem prep_prep (p q : List UInt8) (ls : List (List UInt8)) : prep p (prep q ls) = prep (p ++ q) ls := by
  cases ls with
  | nil => rfl
  | cons a t => simp [prep]
/-- The words out of the first i bytes, where the last one begins at from. -/
def SplAt (l : List UInt8) (i frm : Nat) (out : List (List UInt8)) : Prop := frm ≤ i ∧ i ≤ l.length ∧ splitW l = out ++ prep ((l.take i).drop frm) (splitW (l.drop i))
theorem SplAt.zero (l : List UInt8) : SplAt l 0 0 [] := ⟨Nat.le_refl _, Nat.zero_le _, by simp [prep_nil (splitW_ne l)]⟩
theorem SplAt.cut {l : List UInt8} {i frm : Nat} {out : List (List UInt8)} (h : SplAt l i frm out) (hi : i < l.length) (hb : l.getD i 0 = 46) : SplAt l (i + 1) (i + 1) (out ++ [(l.take i).drop frm]) := by
  obtain ⟨h1, h2, h3⟩ := h
  refine ⟨Nat.le_refl _, hi, ?_⟩
  have e : l.drop i = 46 :: l.drop (i + 1) := by
    rw [List.drop_eq_getElem_cons hi, ← hb, List.getD_eq_getElem?_getD, List.getElem?_eq_getElem hi]; rfl
  rw [h3, e, splitW, if_pos rfl]
  have e2 : (l.take (i + 1)).drop (i + 1) = [] := by simp
  rw [e2, prep_nil (splitW_ne _)]
  simp [prep]
theorem SplAt.step {l : List UInt8} {i frm : Nat} {out : List (List UInt8)} (h : SplAt l i frm out) (hi : i < l.length) (hb : ¬ l.getD i 0 = 46) : SplAt l (i + 1) frm out := by
  obtain ⟨h1, h2, h3⟩ := h
  refine ⟨by omega, hi, ?_⟩
  have e : l.drop i = l.getD i 0 :: l.drop (i + 1) := by
    rw [List.drop_eq_getElem_cons hi, List.getD_eq_getElem?_getD, List.getElem?_eq_getElem hi]; rfl
  have e2 : (l.take (i + 1)).drop frm = (l.take i).drop frm ++ [l.getD i 0] := by
    rw [List.take_add_one, List.getElem?_eq_getElem hi, List.drop_append_of_le_length (by simp; omega), List.getD_eq_getElem?_getD, List.getElem?_eq_getElem hi]; rfl
  rw [h3, e, splitW, if_neg hb, prep_prep, e2]
theorem SplAt.done {l : List UInt8} {frm : Nat} {out : List (List UInt8)} (h : SplAt l l.length frm out) : splitW l = out ++ [l.drop frm] := by
  obtain ⟨_, _, h3⟩ := h
  rw [h3, List.take_length, List.drop_length]
  simp [splitW, prep]
theorem splitW_len (l : List UInt8) : (splitW l).length ≤ l.length + 1 := by
  induction l with
  | nil => simp [splitW]
  | cons b r ih =>
    unfold splitW
    split
    · simp; omega
    · have : (prep [b] (splitW r)).length ≤ (splitW r).length + 0 ∨ splitW r = [] := by
        cases e : splitW r with
        | nil => exact .inr rfl
        | cons a t => left; simp [prep]
      rcases this with h | h
      · simp; omega
      · exact absurd h (splitW_ne r)
theorem splitW_mem_len (l : List UInt8) : ∀ w ∈ splitW l, w.length ≤ l.length := by
  induction l with
  | nil => simp [splitW]
  | cons b r ih =>
    intro w hw
    unfold splitW at hw
    split at hw
    · rcases List.mem_cons.1 hw with rfl | h
      · simp
      · have := ih w h; simp; omega
    · cases e : splitW r with
      | nil => exact absurd e (splitW_ne r)
      | cons a t =>
        rw [e] at hw ih
        rcases List.mem_cons.1 hw with rfl | h
        · have := ih a (by simp); simp; omega
        · have := ih w (by simp [h]); simp; omega

/-- The library's words are these. -/
theorem index_one (b : UInt8) (r : List UInt8) : Lib.index (b :: r) [46] = if b = 46 then 0 else if Lib.index r [46] = -1 then -1 else Lib.index r [46] + 1 := by
  rw [Lib.index]
  by_cases h : b = 46
  · subst h; simp [List.isPrefixOf]
  · have : ¬ (46 : UInt8) = b := fun e => h e.symm
    simp [List.isPrefixOf, h, this]
theorem splitK_prep {b : UInt8} (hb : ¬ b = 46) (k : Nat) (r : List UInt8) : Lib.splitK [46] 0 k (b :: r) = prep [b] (Lib.splitK [46] 0 k r) := by
  cases k with
  | zero => rfl
  | succ k =>
    unfold Lib.splitK
    rw [index_one, if_neg hb]
    have hge := Lib.index_ge r [46]
    by_cases h : Lib.index r [46] = -1
    · simp [h, prep]
    · rw [if_neg h]
      have e1 : (Lib.index r [46] + 1 == -1) = false := by rw [beq_eq_false_iff_ne]; omega
      have e2 : (Lib.index r [46] == -1) = false := by rw [beq_eq_false_iff_ne]; omega
      obtain ⟨m, em⟩ : ∃ m : Nat, Lib.index r [46] = m := ⟨(Lib.index r [46]).toNat, by omega⟩
      rw [e1, e2, em, show (((m : Nat) : Int) + 1).toNat = m + 1 by omega, show ((m : Nat) : Int).toNat = m by omega]
      simp [prep]
theorem splitK_all (l : List UInt8) : Lib.splitK [46] 0 (l.count 46) l = splitW l := by
  induction l with
  | nil => simp [Lib.splitK, splitW]
  | cons b r ih =>
    by_cases hb : b = 46
    · subst hb
      rw [List.count_cons_self, Lib.splitK, index_one, if_pos rfl, splitW, if_pos rfl, ← ih]
      simp
    · rw [List.count_cons_of_ne (fun e => hb e), splitK_prep hb, ih, splitW, if_neg hb]
/-- The words, put together again. -/
theorem join_splitW (l : List UInt8) : Lib.join (splitW l) [46] = l := by
  induction l with
  | nil => simp [splitW, Lib.join_one]
  | cons b r ih =>
    unfold splitW
    cases e : splitW r with
    | nil => exact absurd e (splitW_ne r)
    | cons a t =>
      rw [e, Lib.join_cons] at ih
      split
      · rename_i hb
        rw [Lib.join_cons, joinTail_cons, hb, ← ih]; simp
      · rw [prep, Lib.join_cons, ← ih]; simp
theorem splitW_word (w r : List UInt8) (h : ∀ b ∈ w, ¬ b = 46) : splitW (w ++ r) = prep w (splitW r) := by
  induction w with
  | nil => rw [prep_nil (splitW_ne r)]; rfl
  | cons b w ih =>
    rw [List.cons_append, splitW, if_neg (h b (by simp)), ih (fun c hc => h c (by simp [hc])), prep_prep]; rfl
theorem splitW_join (ls : List (List UInt8)) (hn : ls ≠ []) (h : ∀ w ∈ ls, ∀ b ∈ w, ¬ b = 46) : splitW (Lib.join ls [46]) = ls := by
  induction ls with
  | nil => exact absurd rfl hn
  | cons w t ih =>
    rw [Lib.join_cons]
    cases t with
    | nil =>
      have := splitW_word w [] (h w (by simp))
      simpa [Lib.joinTail, splitW, prep] using this
    | cons y r =>
      have h2 := ih (by simp) (fun v hv => h v (by simp [hv]))
      rw [Lib.join_cons] at h2
      rw [joinTail_cons, splitW_word w _ (h w (by simp)), List.append_assoc, List.singleton_append, splitW, if_pos rfl, h2]
      simp [prep]

/-- The program's way: each word is read by the library's Atoi; the list must have the text. V: what the first words read as. -/
def AtTo (l : List UInt8) (k : Nat) (V : List Int) : Prop := V.length = k ∧ ∀ j, j < k → ∀ w, (splitW l)[j]? = some w → Lib.atoiAll w = .ok (V.getD j 0)
theorem AtTo.zero (l : List UInt8) : AtTo l 0 [] := ⟨rfl, fun j h => by omega⟩
theorem AtTo.snoc {l w : List UInt8} {k : Nat} {V : List Int} {x : Int} (h : AtTo l k V) (hw : (splitW l)[k]? = some w) (hx : Lib.atoiAll w = .ok x) : AtTo l (k + 1) (V ++ [x]) := by
  obtain ⟨h1, h2⟩ := h
  refine ⟨by simp [h1], fun j hj v hv => ?_⟩
  by_cases e : j = k
  · subst e
    rw [hw] at hv
    simp at hv; subst hv
    rw [hx, List.getD_eq_getElem?_getD, List.getElem?_append_right (by omega), h1]; simp
  · rw [h2 j (by omega) v hv, List.getD_eq_getElem?_getD, List.getD_eq_getElem?_getD, List.getElem?_append_left (by omega)]

end Go.Proofs.YtgojlabkngnkdaaDoor.P
