/-
  Clues and hidden pieces, pure: what a clue is, what it tells, all hidden pieces in order, those that fit. No program in it.
-/
import Derived.Test.YtphjiicdodkfbaaWays
namespace Go.Proofs.Ytphjiicdodkfbaa
open Go.RowKit

/-- A clue's numbers. -/
structure Cl where
  k : Int
  a : Int
  b : Int
def clL (k : Int) : Int := if k = 5 then 1 else 0
def clM (k : Int) : Int := if k = 0 then 4 else if k = 5 then 6 else 24
def clQ (k : Int) : Int := if k = 2 then 1 else if k = 4 then 16 else if k = 5 then 4 else 0
def clB (c : Cl) : Bool := inB c.k 0 5 && (inB c.a (clL c.k) (clM c.k) && inB c.b 0 (clQ c.k))
def aloB (k : Int) : Bool := decide (k < 2) || k == 3
def cntL (xs : List Int) (a : Int) : Int := (xs.count a : Nat)
noncomputable def vaL (k a : Int) (xs : List Int) : Int :=
  if k = 0 then xs.length else if k = 1 then sumP xs else if k = 2 then min 1 (Wy xs a) else if k = 3 then runP xs else if k = 4 then Wy xs a else cntL xs a
noncomputable def fitB (c : Cl) (xs : List Int) : Bool := if aloB c.k = true then vaL c.k 0 xs == c.a else vaL c.k c.a xs == c.b
noncomputable def abL (k a : Int) (xs : List Int) : Cl := if aloB k = true then ⟨k, vaL k 0 xs, 0⟩ else ⟨k, a, vaL k a xs⟩
def eqC (c d : Cl) : Bool := c.k == d.k && (c.a == d.a && c.b == d.b)
noncomputable def fitA (cs : List Cl) (xs : List Int) : Bool := cs.all (fun c => fitB c xs)
theorem clB_parts {c : Cl} (h : clB c = true) : (0 ≤ c.k ∧ c.k ≤ 5) ∧ (clL c.k ≤ c.a ∧ c.a ≤ clM c.k) ∧ 0 ≤ c.b ∧ c.b ≤ clQ c.k := by
  simp only [clB, Bool.and_eq_true, inB_iff] at h; exact h
theorem clB_a {c : Cl} (h : clB c = true) : 0 ≤ c.a ∧ c.a ≤ 24 := by
  have := (clB_parts h).2.1
  unfold clL clM at this
  split at this <;> split at this <;> (try split at this) <;> omega
theorem k_cases {k : Int} (h : 0 ≤ k ∧ k ≤ 5) : k = 0 ∨ k = 1 ∨ k = 2 ∨ k = 3 ∨ k = 4 ∨ k = 5 := by omega
theorem clB_alo {c : Cl} (h : clB c = true) (ha : aloB c.k = true) : c.b = 0 := by
  have hb := (clB_parts h).2.2
  have hk := (clB_parts h).1
  obtain ⟨k, a, b⟩ := c
  rcases k_cases hk with e | e | e | e | e | e <;> (simp only at e; subst e; simp [aloB, clQ] at ha hb ⊢) <;> omega
/-- A clue is fit by pieces just if the clue of its kind about them is itself. -/
theorem ab_eq (c : Cl) (xs : List Int) (h : clB c = true) : eqC (abL c.k c.a xs) c = fitB c xs := by
  unfold eqC abL fitB
  by_cases ha : aloB c.k = true
  · simp only [ha, if_true]
    rw [clB_alo h ha]
    simp
  · simp only [ha]
    simp
theorem cntL_step {xs : List Int} {j : Nat} (h : j < xs.length) (a : Int) : cntL (xs.take (j + 1)) a = cntL (xs.take j) a + if xs.getD j 0 = a then 1 else 0 := by
  unfold cntL
  rw [List.take_add_one, List.count_append, List.getElem?_eq_getElem h, List.getD_eq_getElem?_getD, List.getElem?_eq_getElem h]
  by_cases e : xs[j] = a <;> simp [e]
theorem cntL_bd (xs : List Int) (a : Int) : 0 ≤ cntL xs a ∧ cntL xs a ≤ xs.length := by
  unfold cntL; have := List.count_le_length (a := a) (l := xs); omega
/-! All hidden pieces. -/
def HdOk (xs : List Int) : Prop := xs.length ≤ 4 ∧ (∀ j, j < xs.length → 1 ≤ xs.getD j 0 ∧ xs.getD j 0 ≤ 6) ∧ UpTo xs xs.length
noncomputable def hdB (xs : List Int) : Bool := decide (xs.length ≤ 4) && (goodB xs && allB xs 1 6)
theorem HdOk.good {xs : List Int} (h : HdOk xs) : Good xs := ⟨by have := h.1; omega, fun j hj => by have := h.2.1 j hj; omega, h.2.2⟩
theorem hdB_iff {xs : List Int} : hdB xs = true ↔ HdOk xs := by
  unfold hdB
  simp only [Bool.and_eq_true, decide_eq_true_eq, goodB_iff, allB]
  constructor
  · rintro ⟨h1, h2, h3⟩
    exact ⟨h1, fun j hj => inB_iff.1 (h3 j hj), h2.2.2⟩
  · intro h
    exact ⟨h.1, h.good, fun j hj => inB_iff.2 (h.2.1 j hj)⟩
theorem HdOk.nil : HdOk [] := ⟨by simp, fun j hj => by simp at hj, fun j hj => by simp at hj⟩
/-- The last piece, 1 if there is none. -/
def lstL (b : List Int) : Int := if b = [] then 1 else b.getD (b.length - 1) 0
theorem lstL_nil : lstL [] = 1 := rfl
theorem lstL_pos {b : List Int} {m : Nat} (h : b.length = m + 1) : lstL b = b.getD m 0 := by
  unfold lstL
  rw [if_neg (by intro e; rw [e] at h; simp at h), h]; rfl
theorem HdOk.lst {b : List Int} (h : HdOk b) : 1 ≤ lstL b ∧ lstL b ≤ 6 := by
  unfold lstL
  split
  · omega
  · next e => exact h.2.1 _ (by have := List.length_pos_iff.2 e; omega)
theorem getD_snoc_lt {b : List Int} {n : Int} {j : Nat} (h : j < b.length) : (b ++ [n]).getD j 0 = b.getD j 0 := by
  rw [List.getD_eq_getElem?_getD, List.getD_eq_getElem?_getD, List.getElem?_append_left h]
theorem getD_snoc_eq {b : List Int} {n : Int} : (b ++ [n]).getD b.length 0 = n := by
  rw [List.getD_eq_getElem?_getD, List.getElem?_append_right (Nat.le_refl _)]; simp
theorem HdOk.snoc {b : List Int} {n : Int} (h : HdOk b) (hl : b.length < 4) (h1 : lstL b ≤ n) (h2 : n ≤ 6) : HdOk (b ++ [n]) := by
  have hb := h.lst
  refine ⟨by simp; omega, fun j hj => ?_, fun j hj => ?_⟩
  · rw [List.length_append, List.length_singleton] at hj
    by_cases e : j < b.length
    · rw [getD_snoc_lt e]; exact h.2.1 j e
    · obtain rfl : j = b.length := by omega
      rw [getD_snoc_eq]; omega
  · rw [List.length_append, List.length_singleton] at hj
    by_cases e : j + 1 < b.length
    · rw [getD_snoc_lt e, getD_snoc_lt (by omega)]; exact h.2.2 j e
    · have e2 : j + 1 = b.length := by omega
      rw [getD_snoc_lt (by omega), e2, getD_snoc_eq, ← lstL_pos e2.symm]; exact h1
/-- What is listed for p, p + 1, ..: so many of them. -/
def upF {α : Type} (G : Int → List α) : Nat → Int → List α
  | 0, _ => []
  | d + 1, p => G p ++ upF G d (p + 1)
theorem upF_len {α : Type} (G : Int → List α) (B : Nat) : ∀ (d : Nat) (p : Int), (∀ n, p ≤ n → n < p + d → (G n).length ≤ B) → (upF G d p).length ≤ d * B
  | 0, _, _ => by simp [upF]
  | d + 1, p, h => by
    rw [upF, List.length_append, Nat.succ_mul]
    have h1 := h p (by omega) (by omega)
    have h2 := upF_len G B d (p + 1) (fun n h1 h2 => h n (by omega) (by omega))
    omega
theorem upF_mem {α : Type} {G : Int → List α} {x : α} : ∀ (d : Nat) (p : Int), x ∈ upF G d p → ∃ n, p ≤ n ∧ n < p + d ∧ x ∈ G n
  | 0, _, h => by simp [upF] at h
  | d + 1, p, h => by
    rw [upF, List.mem_append] at h
    rcases h with h | h
    · exact ⟨p, by omega, by omega, h⟩
    · obtain ⟨n, h1, h2, h3⟩ := upF_mem d (p + 1) h
      exact ⟨n, by omega, by omega, h3⟩
theorem upF_filter {α : Type} (G : Int → List α) (f : α → Bool) : ∀ (d : Nat) (p : Int), (upF G d p).filter f = upF (fun n => (G n).filter f) d p
  | 0, _ => by simp [upF]
  | d + 1, p => by rw [upF, upF, List.filter_append, upF_filter G f d]
/-- All that begin with b, up to k pieces longer. -/
def hs : Nat → List Int → List (List Int)
  | 0, b => [b]
  | k + 1, b => b :: upF (fun n => hs k (b ++ [n])) (7 - lstL b).toNat (lstL b)
theorem hs_len : ∀ (k : Nat) (b : List Int), HdOk b → b.length + k = 4 → (hs k b).length ≤ 7 ^ k
  | 0, b, _, _ => by simp [hs]
  | k + 1, b, h, hl => by
    have hb := h.lst
    rw [hs, List.length_cons]
    have h1 := upF_len (fun n => hs k (b ++ [n])) (7 ^ k) (7 - lstL b).toNat (lstL b) (fun n h1 h2 => hs_len k (b ++ [n]) (h.snoc (by omega) h1 (by omega)) (by simp; omega))
    have h2 : (7 - lstL b).toNat * 7 ^ k ≤ 6 * 7 ^ k := Nat.mul_le_mul_right _ (by omega)
    have h3 : 1 ≤ 7 ^ k := Nat.one_le_pow _ _ (by omega)
    have h4 : 7 ^ (k + 1) = 7 ^ k * 7 := Nat.pow_succ ..
    omega
theorem hs_ok : ∀ (k : Nat) (b : List Int), HdOk b → b.length + k = 4 → ∀ xs ∈ hs k b, HdOk xs
  | 0, b, h, _, xs, hx => by simp [hs] at hx; subst hx; exact h
  | k + 1, b, h, hl, xs, hx => by
    have hb := h.lst
    rw [hs, List.mem_cons] at hx
    rcases hx with rfl | hx
    · exact h
    · obtain ⟨n, h1, h2, h3⟩ := upF_mem _ _ hx
      exact hs_ok k (b ++ [n]) (h.snoc (by omega) h1 (by omega)) (by simp; omega) xs h3
theorem hs_bd (k : Nat) (b : List Int) (h : HdOk b) (hl : b.length + k = 4) : (hs k b).length ≤ 2401 := by
  have h1 := hs_len k b h hl
  have h2 : 7 ^ k ≤ 7 ^ 4 := Nat.pow_le_pow_right (by omega) (by omega)
  have h3 : (7 : Nat) ^ 4 = 2401 := by decide
  omega
theorem hs_row (k : Nat) (b : List Int) (h : HdOk b) (hl : b.length + k = 4) {j : Nat} (hj : j < (hs k b).length) : HdOk ((hs k b).getD j []) := by
  rw [List.getD_eq_getElem?_getD, List.getElem?_eq_getElem hj]
  exact hs_ok k b h hl _ (List.getElem_mem hj)
def allH : List (List Int) := hs 4 []
theorem allH_bd : allH.length ≤ 2401 := hs_bd 4 [] HdOk.nil rfl
theorem allH_row {j : Nat} (hj : j < allH.length) : HdOk (allH.getD j []) := hs_row 4 [] HdOk.nil rfl hj
noncomputable def solL (cs : List Cl) : List (List Int) := allH.filter (fitA cs)
theorem solL_bd (cs : List Cl) : (solL cs).length ≤ 2401 := Nat.le_trans (List.length_filter_le _ _) allH_bd
theorem solL_ok {cs : List Cl} : ∀ xs ∈ solL cs, HdOk xs := fun xs h => hs_ok 4 [] HdOk.nil rfl xs (List.mem_filter.1 h).1
theorem solL_row {cs : List Cl} {j : Nat} (hj : j < (solL cs).length) : HdOk ((solL cs).getD j []) := by
  rw [List.getD_eq_getElem?_getD, List.getElem?_eq_getElem hj]
  exact solL_ok _ (List.getElem_mem hj)
/-- A clue without one. -/
def woL (cs : List Cl) (k : Nat) : List Cl := cs.take k ++ cs.drop (k + 1)
def pzB (cs : List Cl) : Bool := decide (cs.length ≤ 6) && cs.all clB
theorem pzB_iff {cs : List Cl} : pzB cs = true ↔ cs.length ≤ 6 ∧ ∀ c ∈ cs, clB c = true := by simp [pzB]
theorem fitA_step {cs : List Cl} {j : Nat} (hj : j < cs.length) (xs : List Int) : fitA (cs.take (j + 1)) xs = (fitA (cs.take j) xs && fitB cs[j] xs) := by
  unfold fitA
  rw [List.take_add_one, List.getElem?_eq_getElem hj, List.all_append]
  simp
theorem fitA_no {cs : List Cl} {j : Nat} (hj : j < cs.length) {xs : List Int} (h : fitB cs[j] xs = false) : fitA cs xs = false := by
  unfold fitA
  rw [List.all_eq_false]
  exact ⟨_, List.getElem_mem hj, by simp [h]⟩
theorem fitA_all {cs : List Cl} {xs : List Int} (h : ∀ j, (hj : j < cs.length) → fitB cs[j] xs = true) : fitA cs xs = true := by
  unfold fitA
  rw [List.all_eq_true]
  intro c hc
  obtain ⟨j, hj, rfl⟩ := List.getElem_of_mem hc
  exact h j hj
end Go.Proofs.Ytphjiicdodkfbaa
