/-
  Plain lists of integers: cuts told from the other end, the parts of a ring, and the fewest opened links that join chains. No condition; no program is spoken of here.
-/
import Derived.Test.YtkadmopnfmbedaaCpure
namespace Go.Proofs.Ytkadmopnfmbedaa

/-- What is told ahead of the last part. -/
def preR : Int → List Int → List Int
  | _, [] => []
  | f, c :: l => (c - f) :: 1 :: preR (c + 1) l
def endR : Int → List Int → Int
  | f, [] => f
  | _, c :: l => endR (c + 1) l
theorem rawF_pre (m : Int) : ∀ (l : List Int) (f : Int), rawF f m l = preR f l ++ [m - endR f l] := by
  intro l
  induction l with
  | nil => intro f; rfl
  | cons c l ih => intro f; simp only [rawF, preR, endR, ih, List.cons_append]
theorem preR_len : ∀ (l : List Int) (f : Int), (preR f l).length = 2 * l.length := by
  intro l
  induction l with
  | nil => intro f; rfl
  | cons c l ih => intro f; simp only [preR, List.length_cons, ih]; omega
theorem preR_shift (a : Int) : ∀ (l : List Int) (f : Int), preR (f - a) (l.map (· - a)) = preR f l := by
  intro l
  induction l with
  | nil => intro f; rfl
  | cons c l ih => intro f; simp only [List.map_cons, preR]; rw [show c - a + 1 = (c + 1) - a by omega, ih, show c - a - (f - a) = c - f by omega]
theorem endR_shift (a : Int) : ∀ (l : List Int) (f : Int), endR (f - a) (l.map (· - a)) = endR f l - a := by
  intro l
  induction l with
  | nil => intro f; rfl
  | cons c l ih => intro f; simp only [List.map_cons, endR]; rw [show c - a + 1 = (c + 1) - a by omega, ih]
/-- The cuts of a ring told from the first one on. -/
def turned (xs : List Int) : List Int := xs.map (· - xs.getD 0 0)
def ringL (m : Int) (xs : List Int) : List Int := sortL (partsP m (turned xs))
/-- The program's array behind what is left at both ends was put together. -/
def ringA (m : Int) (xs : List Int) : List Int :=
  ((rawP m xs).set 0 ((rawP m xs).getD 0 0 + (rawP m xs).getD (2 * xs.length) 0)).set (2 * xs.length) 0
theorem ringA_perm (m : Int) (xs : List Int) (h : xs ≠ []) : ((ringA m xs).filter posB).Perm (partsP m (turned xs)) := by
  cases xs with
  | nil => exact absurd rfl h
  | cons c l =>
    have e0 : turned (c :: l) = 0 :: l.map (· - c) := by simp [turned]
    have e1 : rawP m (c :: l) = c :: 1 :: (preR (c + 1) l ++ (m - endR (c + 1) l) :: List.replicate (18 - 2 * (l.length + 1)) 0) := by
      simp only [rawP, rawF, rawF_pre, List.length_cons, Int.sub_zero, List.cons_append, List.append_assoc, List.nil_append]
    have e2 : ringA m (c :: l) = (c + (m - endR (c + 1) l)) :: 1 :: (preR (c + 1) l ++ 0 :: List.replicate (18 - 2 * (l.length + 1)) 0) := by
      have hl : 2 * (c :: l).length = (preR (c + 1) l).length + 1 + 1 := by rw [preR_len]; simp; omega
      unfold ringA
      rw [e1, hl]
      simp only [List.set_cons_zero, List.set_cons_succ, List.getD_cons_zero, List.getD_cons_succ]
      rw [List.set_append_right _ _ (Nat.le_refl _)]
      simp [List.getD_eq_getElem?_getD]
    rw [e2, e0]
    rw [← rawP_filter m (0 :: l.map (· - c))]
    simp only [rawP, rawF, List.filter_append, filter_zeros, List.append_nil]
    rw [rawF_pre, show (0 : Int) + 1 = (c + 1) - c by omega, preR_shift, endR_shift]
    simp only [List.filter_cons, List.filter_append, List.filter_nil, filter_zeros]
    have p0 : posB 0 = false := rfl
    have p1 : posB 1 = true := rfl
    have p2 : posB (0 - 0) = false := rfl
    simp only [p0, p1, p2, if_true, Bool.false_eq_true, if_false, List.append_nil]
    rw [show m - (endR (c + 1) l - c) = c + (m - endR (c + 1) l) by omega]
    by_cases hp : posB (c + (m - endR (c + 1) l)) = true
    · simp only [hp, if_true]
      exact (List.perm_append_comm (l₁ := [c + (m - endR (c + 1) l)]) (l₂ := 1 :: (preR (c + 1) l).filter posB))
    · simp only [Bool.not_eq_true] at hp
      simp only [hp, Bool.false_eq_true, if_false, List.append_nil]
      exact List.Perm.refl _
theorem ringA_eq (m : Int) (xs : List Int) (h : xs ≠ []) : sortL ((ringA m xs).filter posB) = ringL m xs := sortL_of (ringA_perm m xs h)
theorem turned_len (xs : List Int) : (turned xs).length = xs.length := by simp [turned]
theorem turned_at {xs : List Int} {j : Nat} (h : j < xs.length) : (turned xs).getD j 0 = xs.getD j 0 - xs.getD 0 0 := by
  simp only [turned, List.getD_eq_getElem?_getD, List.getElem?_map, List.getElem?_eq_getElem h]; simp
theorem ris_mono {xs : List Int} {lo hi : Int} (h : RisTo xs lo hi xs.length) : ∀ (d i : Nat), i + d < xs.length → xs.getD i 0 ≤ xs.getD (i + d) 0 := by
  intro d
  induction d with
  | zero => intro i _; exact Int.le_refl _
  | succ d ih =>
    intro i hi
    have h1 := ih i (by omega)
    have h2 := h.2 (i + d) (by omega)
    rw [show i + (d + 1) = i + d + 1 by omega]; omega
theorem CutsOk.turn {m : Int} {xs : List Int} (h : CutsOk m xs) : CutsOk m (turned xs) := by
  refine ⟨h.1, by rw [turned_len]; exact h.2.1, fun j hj => ?_, fun j hj => ?_⟩
  · rw [turned_len] at hj
    rw [turned_at hj]
    have h1 := h.2.2.1 j hj
    have h2 := h.2.2.1 0 (by omega)
    have h3 := ris_mono h.2.2 j 0 (by omega)
    rw [Nat.zero_add] at h3
    omega
  · rw [turned_len] at hj
    rw [turned_at hj, turned_at (by omega)]
    have := h.2.2.2 j hj
    omega

end Go.Proofs.Ytkadmopnfmbedaa
