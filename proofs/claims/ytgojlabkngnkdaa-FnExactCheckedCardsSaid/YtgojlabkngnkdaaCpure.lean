/-
  Plain lists of integers: cuts of a chain, the parts that they leave, and sorted lists. No condition; no program is spoken of here.
-/
import Derived.Test.YtgojlabkngnkdaaPure
namespace Go.Proofs.Ytgojlabkngnkdaa

/-- Increasing numbers within bounds, up to the index k. -/
def RisTo (xs : List Int) (lo hi : Int) (k : Nat) : Prop := (∀ j, j < k → lo ≤ xs.getD j 0 ∧ xs.getD j 0 ≤ hi) ∧ (∀ j, j + 1 < k → xs.getD j 0 < xs.getD (j + 1) 0)
noncomputable def risB (xs : List Int) (lo hi : Int) : Bool := @decide (RisTo xs lo hi xs.length) (Classical.propDecidable _)
theorem risB_iff {xs : List Int} {lo hi : Int} : risB xs lo hi = true ↔ RisTo xs lo hi xs.length := by simp [risB]
theorem RisTo.succ {xs : List Int} {lo hi : Int} {k : Nat} (h : RisTo xs lo hi k) (hx : lo ≤ xs.getD k 0 ∧ xs.getD k 0 ≤ hi) (hp : ∀ m, k = m + 1 → xs.getD m 0 < xs.getD k 0) : RisTo xs lo hi (k + 1) := by
  refine ⟨fun j hj => ?_, fun j hj => ?_⟩
  · by_cases e : j = k
    · subst e; exact hx
    · exact h.1 j (by omega)
  · by_cases e : j + 1 = k
    · have := hp j e.symm
      rw [← e] at this; exact this
    · exact h.2 j (by omega)
/-- Cuts of a chain. -/
def CutsOk (m : Int) (xs : List Int) : Prop := (1 ≤ m ∧ m ≤ 1000) ∧ xs.length ≤ 9 ∧ RisTo xs 0 (m - 1) xs.length
/-- The first link that is free behind the cuts before the index k. -/
def freeAt (xs : List Int) : Nat → Int
  | 0 => 0
  | k + 1 => xs.getD k 0 + 1
theorem freeAt_bd {xs : List Int} {hi : Int} {k : Nat} (h : RisTo xs 0 hi k) (h0 : 0 ≤ hi + 1) : 0 ≤ freeAt xs k ∧ freeAt xs k ≤ hi + 1 := by
  cases k with
  | zero => simp [freeAt]; omega
  | succ k => have := h.1 k (by omega); simp only [freeAt]; omega
theorem free_next (xs : List Int) (k : Nat) : freeAt xs (k + 1) = xs.getD k 0 + 1 := rfl
theorem CutsOk.step {m : Int} {xs : List Int} (h : CutsOk m xs) {k : Nat} (hk : k < xs.length) : freeAt xs k ≤ xs.getD k 0 ∧ xs.getD k 0 ≤ m - 1 ∧ 0 ≤ freeAt xs k := by
  have h1 := h.2.2.1 k hk
  cases k with
  | zero => simp only [freeAt]; omega
  | succ k => have h2 := h.2.2.2 k hk; have h3 := h.2.2.1 k (by omega); simp only [freeAt]; omega
theorem CutsOk.ris {m : Int} {xs : List Int} (h : CutsOk m xs) {k : Nat} (hk : k ≤ xs.length) : RisTo xs 0 (m - 1) k :=
  ⟨fun j hj => h.2.2.1 j (by omega), fun j hj => h.2.2.2 j (by omega)⟩
theorem CutsOk.free {m : Int} {xs : List Int} (h : CutsOk m xs) {k : Nat} (hk : k ≤ xs.length) : 0 ≤ freeAt xs k ∧ freeAt xs k ≤ m := by
  have := freeAt_bd (h.ris hk) (by have := h.1; omega); omega

/-- What cuts make of a chain, from its first free link on: along it, parts of no link left out. -/
def partsF : Int → Int → List Int → List Int
  | f, m, [] => if f < m then [m - f] else []
  | f, m, c :: l => (if f < c then [c - f] else []) ++ 1 :: partsF (c + 1) m l
/-- .. parts of no link with them. -/
def rawF : Int → Int → List Int → List Int
  | f, m, [] => [m - f]
  | f, m, c :: l => (c - f) :: 1 :: rawF (c + 1) m l
def posB (n : Int) : Bool := decide (0 < n)
theorem rawF_filter (m : Int) : ∀ (l : List Int) (f : Int), (rawF f m l).filter posB = partsF f m l := by
  intro l
  induction l with
  | nil =>
    intro f
    simp only [rawF, partsF]
    by_cases h : f < m
    · rw [if_pos h, List.filter_cons_of_pos (by simp [posB]; omega), List.filter_nil]
    · rw [if_neg h, List.filter_cons_of_neg (by simp [posB]; omega), List.filter_nil]
  | cons c l ih =>
    intro f
    simp only [rawF, partsF]
    by_cases h : f < c
    · rw [if_pos h, List.filter_cons_of_pos (by simp [posB]; omega), List.filter_cons_of_pos (by simp [posB]), ih]; rfl
    · rw [if_neg h, List.filter_cons_of_neg (by simp [posB]; omega), List.filter_cons_of_pos (by simp [posB]), ih]; rfl
def partsP (m : Int) (xs : List Int) : List Int := partsF 0 m xs
theorem partsF_pos (m : Int) (l : List Int) (f : Int) : ∀ x ∈ partsF f m l, 1 ≤ x := by
  rw [← rawF_filter]; intro x hx; have := (List.mem_filter.1 hx).2; simp [posB] at this; omega

def sumL : List Int → Int
  | [] => 0
  | a :: l => a + sumL l
theorem sumL_append (a b : List Int) : sumL (a ++ b) = sumL a + sumL b := by
  induction a with
  | nil => simp [sumL]
  | cons x a ih => simp only [List.cons_append, sumL, ih]; omega
/-- The links f, .. m - 1 and increasing cuts of them. -/
def Fit : Int → Int → List Int → Prop
  | f, m, [] => f ≤ m
  | f, m, c :: l => f ≤ c ∧ Fit (c + 1) m l
theorem partsF_sum (m : Int) : ∀ (l : List Int) (f : Int), Fit f m l → sumL (partsF f m l) = m - f := by
  intro l
  induction l with
  | nil => intro f h; simp only [Fit] at h; simp only [partsF]; split <;> simp only [sumL] <;> omega
  | cons c l ih =>
    intro f h
    simp only [Fit] at h
    simp only [partsF, sumL_append, sumL, ih _ h.2]
    split <;> simp only [sumL] <;> omega
theorem fit_drop {m : Int} {xs : List Int} (h : CutsOk m xs) : ∀ (d k : Nat), k + d = xs.length → Fit (freeAt xs k) m (xs.drop k) := by
  intro d
  induction d with
  | zero =>
    intro k hk
    rw [List.drop_eq_nil_of_le (by omega)]
    exact (h.free (by omega)).2
  | succ d ih =>
    intro k hk
    rw [drop_cons xs k (by omega)]
    exact ⟨(h.step (by omega)).1, ih (k + 1) (by omega)⟩
theorem CutsOk.fit {m : Int} {xs : List Int} (h : CutsOk m xs) : Fit 0 m xs := by
  have := fit_drop h xs.length 0 (by omega)
  simpa [freeAt] using this
theorem mem_le_sumL : ∀ (l : List Int), (∀ x ∈ l, 1 ≤ x) → (0 ≤ sumL l ∧ ∀ x ∈ l, x ≤ sumL l) := by
  intro l
  induction l with
  | nil => intro _; simp [sumL]
  | cons a l ih =>
    intro h
    have h1 := ih fun x hx => h x (by simp [hx])
    have h2 := h a (by simp)
    refine ⟨by simp only [sumL]; omega, fun x hx => ?_⟩
    simp only [sumL]
    rcases List.mem_cons.1 hx with rfl | hx
    · omega
    · have := h1.2 x hx; omega
theorem CutsOk.parts {m : Int} {xs : List Int} (h : CutsOk m xs) : ∀ x ∈ partsP m xs, 1 ≤ x ∧ x ≤ 1000 := by
  intro x hx
  have h1 := partsF_pos m xs 0
  have h2 := (mem_le_sumL _ h1).2 x hx
  rw [partsF_sum m xs 0 h.fit] at h2
  have := h1 x hx
  have := h.1
  omega
/-- The model's loop at the index k. -/
def PartsAt (m : Int) (xs : List Int) (k : Nat) (out : List Int) : Prop := out ++ partsF (freeAt xs k) m (xs.drop k) = partsP m xs ∧ out.length ≤ 2 * k
theorem PartsAt.zero (m : Int) (xs : List Int) : PartsAt m xs 0 [] := ⟨by simp [freeAt, partsP], by simp⟩
theorem PartsAt.none {m : Int} {xs : List Int} {k : Nat} {out : List Int} (h : PartsAt m xs k out) (hk : k < xs.length) (hc : ¬ freeAt xs k < xs.getD k 0) : PartsAt m xs (k + 1) (out ++ [1]) := by
  obtain ⟨h1, h2⟩ := h
  refine ⟨?_, by simp; omega⟩
  rw [drop_cons xs k hk, partsF, if_neg hc] at h1
  rw [free_next, ← h1]; simp
theorem sorted_eq {a b : List Int} (h1 : a.Pairwise (fun x y => x ≤ y)) (h2 : b.Pairwise (fun x y => x ≤ y)) (h : a.Perm b) : a = b :=
  List.Perm.eq_of_pairwise (le := fun x y => x ≤ y) (fun x y _ _ hx hy => by omega) h1 h2 h
end Go.Proofs.Ytgojlabkngnkdaa
