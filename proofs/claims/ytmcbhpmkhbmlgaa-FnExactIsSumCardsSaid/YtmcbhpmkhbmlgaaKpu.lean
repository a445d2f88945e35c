/-
  Cards that tell, plainly: what cards are, answers, how far apart they are, and the numbers that they lead to. No condition; no program is spoken of here.
-/
import Derived.Test.YtmcbhpmkhbmlgaaCpure
namespace Go.Proofs.Ytmcbhpmkhbmlgaa

/-- Cards for n numbers: at most 12 increasing lists of numbers 0..n-1. -/
structure CaG (n : Int) (Ls : List (List Int)) : Prop where
  lo : 1 ≤ n
  hi : n ≤ 128
  len : Ls.length ≤ 12
  ris : ∀ j, j < Ls.length → RisTo (Ls.getD j []) 0 (n - 1) (Ls.getD j []).length
noncomputable def caB (n : Int) (Ls : List (List Int)) : Bool := @decide (CaG n Ls) (Classical.propDecidable _)
theorem caB_yes {n : Int} {Ls : List (List Int)} (h : CaG n Ls) : caB n Ls = true := by simp [caB, h]
theorem caB_no {n : Int} {Ls : List (List Int)} (h : ¬ CaG n Ls) : caB n Ls = false := by simp [caB, h]
theorem caB_iff {n : Int} {Ls : List (List Int)} : caB n Ls = true ↔ CaG n Ls := by simp [caB]
/-- The first k lists are cards. -/
def CaTo (n : Int) (Ls : List (List Int)) (k : Nat) : Prop := ∀ j, j < k → RisTo (Ls.getD j []) 0 (n - 1) (Ls.getD j []).length
theorem CaTo.zero (n : Int) (Ls : List (List Int)) : CaTo n Ls 0 := fun j h => by omega
theorem CaTo.succ {n : Int} {Ls : List (List Int)} {k : Nat} (h : CaTo n Ls k) (hk : risB (Ls.getD k []) 0 (n - 1) = true) : CaTo n Ls (k + 1) := fun j hj => by
  by_cases e : j = k
  · subst e; exact risB_iff.1 hk
  · exact h j (by omega)
theorem ca_all {n : Int} {Ls : List (List Int)} (h1 : 1 ≤ n ∧ n ≤ 128) (h2 : Ls.length ≤ 12) (h : CaTo n Ls Ls.length) : caB n Ls = true := caB_yes ⟨h1.1, h1.2, h2, h⟩
theorem ca_not {n : Int} {Ls : List (List Int)} {k : Nat} (hk : k < Ls.length) (h : risB (Ls.getD k []) 0 (n - 1) = false) : caB n Ls = false :=
  caB_no fun g => by have := risB_yes (g.ris k hk); rw [h] at this; cases this
theorem ca_size {n : Int} {Ls : List (List Int)} (h : ¬ ((1 ≤ n ∧ n ≤ 128) ∧ Ls.length ≤ 12)) : caB n Ls = false := caB_no fun g => h ⟨⟨g.lo, g.hi⟩, g.len⟩
/-- An increasing list of numbers less than n has at most n. -/
theorem ris_len {xs : List Int} {hi : Int} (h0 : 0 ≤ hi + 1) : ∀ k, RisTo xs 0 hi k → (k : Int) ≤ hi + 1 := by
  intro k
  cases k with
  | zero => intro _; simpa using h0
  | succ k =>
    intro h
    have : ∀ j, j ≤ k → (j : Int) ≤ xs.getD j 0 := by
      intro j
      induction j with
      | zero => intro _; exact (h.1 0 (by omega)).1
      | succ j ih => intro hj; have := ih (by omega); have := h.2 j (by omega); omega
    have h1 := this k (Nat.le_refl _)
    have h2 := (h.1 k (by omega)).2
    omega
theorem CaG.row {n : Int} {Ls : List (List Int)} (h : CaG n Ls) {j : Nat} (hj : j < Ls.length) : (Ls.getD j []).length ≤ 128 := by
  have := ris_len (by have := h.lo; omega) _ (h.ris j hj)
  have := h.hi
  omega

/-- The answers of a number. -/
def anW (Ls : List (List Int)) (x : Int) : List UInt8 := Ls.map fun L => if x ∈ L then 121 else 110
theorem anW_len (Ls : List (List Int)) (x : Int) : (anW Ls x).length = Ls.length := by simp [anW]
def anK (Ls : List (List Int)) (x : Int) (k : Nat) : List UInt8 := (anW Ls x).take k
theorem anK_all (Ls : List (List Int)) (x : Int) : anK Ls x Ls.length = anW Ls x := by unfold anK; rw [List.take_of_length_le (by rw [anW_len]; omega)]
theorem anK_zero (Ls : List (List Int)) (x : Int) : anK Ls x 0 = [] := by simp [anK]
theorem anW_at {Ls : List (List Int)} {x : Int} {k : Nat} (hk : k < Ls.length) : (anW Ls x)[k]? = some (if x ∈ Ls.getD k [] then 121 else 110) := by
  unfold anW
  rw [List.getElem?_map, List.getElem?_eq_getElem hk, List.getD_eq_getElem?_getD, List.getElem?_eq_getElem hk]; rfl
theorem anK_yes {Ls : List (List Int)} {x : Int} {k : Nat} (hk : k < Ls.length) (h : x ∈ Ls.getD k []) : anK Ls x (k + 1) = anK Ls x k ++ [121] := by
  unfold anK; rw [List.take_add_one, anW_at hk, if_pos h]; rfl
theorem anK_no {Ls : List (List Int)} {x : Int} {k : Nat} (hk : k < Ls.length) (h : ¬ x ∈ Ls.getD k []) : anK Ls x (k + 1) = anK Ls x k ++ [110] := by
  unfold anK; rw [List.take_add_one, anW_at hk, if_neg h]; rfl

/-- A text is one of answers. -/
def YnTo (a : List UInt8) (k : Nat) : Prop := ∀ j, j < k → a.getD j 0 = 121 ∨ a.getD j 0 = 110
theorem YnTo.zero (a : List UInt8) : YnTo a 0 := fun j h => by omega
theorem YnTo.succ {a : List UInt8} {k : Nat} (h : YnTo a k) (hk : a.getD k 0 = 121 ∨ a.getD k 0 = 110) : YnTo a (k + 1) := fun j hj => by
  by_cases e : j = k
  · subst e; exact hk
  · exact h j (by omega)
noncomputable def askB (n : Int) (Ls : List (List Int)) (a : List UInt8) : Bool := @decide (CaG n Ls ∧ a.length = Ls.length ∧ YnTo a a.length) (Classical.propDecidable _)
theorem askB_iff {n : Int} {Ls : List (List Int)} {a : List UInt8} : askB n Ls a = true ↔ (CaG n Ls ∧ a.length = Ls.length ∧ YnTo a a.length) := by simp [askB]
theorem askB_no {n : Int} {Ls : List (List Int)} {a : List UInt8} (h : ¬ (CaG n Ls ∧ a.length = Ls.length ∧ YnTo a a.length)) : askB n Ls a = false := by simp [askB, h]

/-- At how many of the first places two texts differ, and which is the last one of these. -/
def apK (a b : List UInt8) : Nat → Nat
  | 0 => 0
  | i + 1 => if a.getD i 0 = b.getD i 0 then apK a b i else apK a b i + 1
def laK (a b : List UInt8) : Nat → Int
  | 0 => -1
  | i + 1 => if a.getD i 0 = b.getD i 0 then laK a b i else i
theorem apK_le (a b : List UInt8) : ∀ k, apK a b k ≤ k := by
  intro k
  induction k with
  | zero => exact Nat.le_refl _
  | succ k ih => unfold apK; split <;> omega
theorem laK_bd (a b : List UInt8) : ∀ k, -1 ≤ laK a b k ∧ laK a b k < k := by
  intro k
  induction k with
  | zero => simp [laK]
  | succ k ih => unfold laK; split <;> omega
theorem apK_same {a b : List UInt8} {k : Nat} (h : a.getD k 0 = b.getD k 0) : apK a b (k + 1) = apK a b k ∧ laK a b (k + 1) = laK a b k := by simp only [apK, laK]; rw [if_pos h, if_pos h]; exact ⟨rfl, rfl⟩
theorem apK_diff {a b : List UInt8} {k : Nat} (h : ¬ a.getD k 0 = b.getD k 0) : apK a b (k + 1) = apK a b k + 1 ∧ laK a b (k + 1) = k := by simp only [apK, laK]; rw [if_neg h, if_neg h]; exact ⟨rfl, rfl⟩

/-- How far the answers of x are from a. -/
def farN (Ls : List (List Int)) (x : Int) (a : List UInt8) : Nat := apK (anW Ls x) a Ls.length
/-- The numbers less than k for which a has at most so many lies. -/
def cwK (Ls : List (List Int)) (a : List UInt8) (lies : Int) (k : Nat) : List Int := ((List.range k).filter fun (x : Nat) => decide ((farN Ls x a : Int) ≤ lies)).map fun (x : Nat) => (x : Int)
theorem cwK_zero (Ls : List (List Int)) (a : List UInt8) (lies : Int) : cwK Ls a lies 0 = [] := by simp [cwK]
theorem cwK_yes {Ls : List (List Int)} {a : List UInt8} {lies : Int} {k : Nat} (h : (farN Ls k a : Int) ≤ lies) : cwK Ls a lies (k + 1) = cwK Ls a lies k ++ [(k : Int)] := by
  unfold cwK; rw [List.range_succ, List.filter_append]; simp [h]
theorem cwK_no {Ls : List (List Int)} {a : List UInt8} {lies : Int} {k : Nat} (h : ¬ (farN Ls k a : Int) ≤ lies) : cwK Ls a lies (k + 1) = cwK Ls a lies k := by
  unfold cwK; rw [List.range_succ, List.filter_append]; simp [h]
theorem cwK_len (Ls : List (List Int)) (a : List UInt8) (lies : Int) (k : Nat) : (cwK Ls a lies k).length ≤ k := by
  unfold cwK; rw [List.length_map]; exact Nat.le_trans (List.length_filter_le _ _) (by simp)
theorem cwK_bd {Ls : List (List Int)} {a : List UInt8} {lies : Int} {k : Nat} {x : Int} (h : x ∈ cwK Ls a lies k) : 0 ≤ x ∧ x < k := by
  unfold cwK at h
  obtain ⟨j, hj, rfl⟩ := List.mem_map.1 h
  have := List.mem_range.1 (List.mem_filter.1 hj).1
  omega

/-- The sum of the first numbers of the cards with y among the first k; none if one of them is empty. -/
def fsK (Ls : List (List Int)) (a : List UInt8) : Nat → Option Int
  | 0 => some 0
  | k + 1 => match fsK Ls a k with
    | none => none
    | some s => if a.getD k 0 = 121 then (match Ls.getD k [] with | [] => none | x :: _ => some (s + x)) else some s

end Go.Proofs.Ytmcbhpmkhbmlgaa
