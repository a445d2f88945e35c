/-
  Plain lists of integers: all increasing lists of n links of a chain in their order, and the next one behind one of them. No condition; no program is spoken of here.
-/
import Derived.Test.YtnbbfpanidmpgaaCpure
namespace Go.Proofs.Ytnbbfpanidmpgaa

/-- n links side by side, from lo on. -/
def seqC : Int → Nat → List Int
  | _, 0 => []
  | lo, n + 1 => lo :: seqC (lo + 1) n
theorem seqC_len : ∀ (n : Nat) (lo : Int), (seqC lo n).length = n := by
  intro n
  induction n with
  | zero => intro lo; rfl
  | succ n ih => intro lo; simp [seqC, ih]
theorem seqC_at : ∀ (n : Nat) (lo : Int) (j : Nat), j < n → (seqC lo n).getD j 0 = lo + j := by
  intro n
  induction n with
  | zero => intro lo j h; omega
  | succ n ih =>
    intro lo j h
    cases j with
    | zero => simp [seqC]
    | succ j =>
      have := ih (lo + 1) j (by omega)
      simp only [seqC, List.getD_cons_succ, this]; omega
/-- All increasing lists of n of the d links from lo on, in their order. -/
def combF : Nat → Int → Nat → List (List Int)
  | _, _, 0 => [[]]
  | 0, _, _ + 1 => []
  | d + 1, lo, n + 1 => (combF d (lo + 1) n).map (lo :: ·) ++ combF d (lo + 1) (n + 1)
theorem combF_zero (d : Nat) (lo : Int) : combF d lo 0 = [[]] := by cases d <;> rfl
theorem combF_none : ∀ (d : Nat) (lo : Int) (n : Nat), d < n → combF d lo n = [] := by
  intro d
  induction d with
  | zero => intro lo n h; cases n with
    | zero => omega
    | succ n => rfl
  | succ d ih =>
    intro lo n h
    cases n with
    | zero => omega
    | succ n => simp only [combF, ih (lo + 1) n (by omega), ih (lo + 1) (n + 1) (by omega), List.map_nil, List.append_nil]
/-- A list and all behind it. -/
def geC (m : Int) : List Int → List (List Int)
  | [] => [[]]
  | a :: t => (geC m t).map (a :: ·) ++ combF (m - (a + 1)).toNat (a + 1) (t.length + 1)
/-- All behind it. -/
def restC (m : Int) : List Int → List (List Int)
  | [] => []
  | a :: t => (restC m t).map (a :: ·) ++ combF (m - (a + 1)).toNat (a + 1) (t.length + 1)
theorem geC_rest (m : Int) : ∀ c : List Int, geC m c = c :: restC m c := by
  intro c
  induction c with
  | nil => rfl
  | cons a t ih => simp only [geC, restC, ih, List.map_cons, List.cons_append]
theorem geC_seq (m : Int) : ∀ (n : Nat) (lo : Int), lo + n ≤ m → geC m (seqC lo n) = combF (m - lo).toNat lo n := by
  intro n
  induction n with
  | zero => intro lo _; rw [combF_zero]; rfl
  | succ n ih =>
    intro lo h
    obtain ⟨d, hd⟩ : ∃ d, (m - lo).toNat = d + 1 := ⟨(m - lo - 1).toNat, by omega⟩
    have e : (m - (lo + 1)).toNat = d := by omega
    rw [hd]
    simp only [seqC, geC, combF, seqC_len, e]
    rw [ih (lo + 1) (by omega), e]
/-- None behind it. -/
theorem restC_none (m : Int) : ∀ c : List Int, (∀ j, j < c.length → m - c.length + j ≤ c.getD j 0) → restC m c = [] := by
  intro c
  induction c with
  | nil => intro _; rfl
  | cons a t ih =>
    intro h
    have h0 := h 0 (by simp)
    simp at h0
    have ht := ih fun j hj => by
      have := h (j + 1) (by simp; omega)
      simp only [List.length_cons, List.getD_cons_succ] at this
      omega
    simp only [restC, ht, List.map_nil, List.nil_append]
    exact combF_none _ _ _ (by omega)
theorem restC_step (m : Int) : ∀ (c : List Int) (i : Nat), i < c.length → c.getD i 0 < m - c.length + i → (∀ j, i < j → j < c.length → m - c.length + j ≤ c.getD j 0) →
    restC m c = geC m (c.take i ++ seqC (c.getD i 0 + 1) (c.length - i)) := by
  intro c
  induction c with
  | nil => intro i h; simp at h
  | cons a t ih =>
    intro i hi hlt hge
    cases i with
    | zero =>
      have ht : restC m t = [] := restC_none m t fun j hj => by
        have := hge (j + 1) (by omega) (by simp; omega)
        simp only [List.length_cons, List.getD_cons_succ] at this
        omega
      simp only [List.getD_cons_zero, List.length_cons] at hlt
      simp only [restC, ht, List.map_nil, List.nil_append, List.take_zero, List.getD_cons_zero, List.length_cons, Nat.sub_zero]
      rw [geC_seq m (t.length + 1) (a + 1) (by omega)]
    | succ i =>
      have h2 := ih i (by simpa using hi) (by simp only [List.getD_cons_succ, List.length_cons] at hlt; omega) fun j hj hjl => by
        have := hge (j + 1) (by omega) (by simp; omega)
        simp only [List.length_cons, List.getD_cons_succ] at this
        omega
      simp only [restC, h2, List.take_succ_cons, List.cons_append, geC, List.getD_cons_succ, List.length_cons, Nat.add_sub_add_right]
      have hi' : i < t.length := by simpa using hi
      rw [show (t.take i ++ seqC (t.getD i 0 + 1) (t.length - i)).length = t.length by rw [List.length_append, List.length_take, seqC_len]; omega]
/-- Every such list is among them. -/
theorem mem_combF : ∀ (d : Nat) (lo : Int) (c : List Int), Fit lo (lo + d) c → c ∈ combF d lo c.length := by
  intro d
  induction d with
  | zero =>
    intro lo c h
    cases c with
    | nil => simp [combF]
    | cons a t =>
      simp only [Fit] at h
      have hle : ∀ (l : List Int) (f m : Int), Fit f m l → f ≤ m := by
        intro l
        induction l with
        | nil => intro f m h; exact h
        | cons a l ih => intro f m h; have := ih _ _ h.2; have := h.1; omega
      have := hle t _ _ h.2
      omega
  | succ d ih =>
    intro lo c h
    cases c with
    | nil => simp [combF]
    | cons a t =>
      simp only [List.length_cons, combF, List.mem_append, List.mem_map]
      by_cases e : a = lo
      · subst e
        exact .inl ⟨t, ih (a + 1) t (by have := h.2; rwa [show a + ((d + 1 : Nat) : Int) = a + 1 + (d : Int) by omega] at this), rfl⟩
      · refine .inr ?_
        have := ih (lo + 1) (a :: t) ⟨by have := h.1; omega, by have := h.2; rwa [show lo + ((d + 1 : Nat) : Int) = lo + 1 + (d : Int) by omega] at this⟩
        simpa using this
/-- .. and what is among them is such a list. -/
theorem combF_fit : ∀ (d : Nat) (lo : Int) (n : Nat) (c : List Int), c ∈ combF d lo n → Fit lo (lo + d) c ∧ c.length = n := by
  intro d
  induction d with
  | zero =>
    intro lo n c h
    cases n with
    | zero => simp [combF] at h; subst h; exact ⟨by simp [Fit], rfl⟩
    | succ n => simp [combF] at h
  | succ d ih =>
    intro lo n c h
    cases n with
    | zero => simp [combF] at h; subst h; exact ⟨by simp [Fit]; omega, rfl⟩
    | succ n =>
      simp only [combF, List.mem_append, List.mem_map] at h
      rcases h with ⟨t, ht, rfl⟩ | h
      · have := ih _ _ _ ht
        exact ⟨⟨Int.le_refl _, by have h2 := this.1; rwa [show lo + 1 + (d : Int) = lo + ((d + 1 : Nat) : Int) by omega] at h2⟩, by simp [this.2]⟩
      · have := ih _ _ _ h
        refine ⟨?_, this.2⟩
        have h2 := this.1
        rw [show lo + 1 + (d : Int) = lo + ((d + 1 : Nat) : Int) by omega] at h2
        cases c with
        | nil => simp at this
        | cons a t => exact ⟨by have := h2.1; omega, h2.2⟩

end Go.Proofs.Ytnbbfpanidmpgaa
