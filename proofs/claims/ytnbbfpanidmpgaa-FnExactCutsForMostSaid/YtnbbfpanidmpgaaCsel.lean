/-
  Plain lists of integers: how the search goes on through all cuts, in the model and in the program. No condition; no program is spoken of here.
-/
import Derived.Test.YtnbbfpanidmpgaaCfew
namespace Go.Proofs.Ytnbbfpanidmpgaa

theorem fit_ris : ∀ (c : List Int) (f m : Int), Fit f m c → 0 ≤ f → (∀ j, j < c.length → f ≤ c.getD j 0 ∧ c.getD j 0 ≤ m - 1) ∧ (∀ j, j + 1 < c.length → c.getD j 0 < c.getD (j + 1) 0) := by
  intro c
  induction c with
  | nil => intro f m _ _; exact ⟨fun j hj => by simp at hj, fun j hj => by simp at hj⟩
  | cons a t ih =>
    intro f m h h0
    have h1 := h.1
    obtain ⟨h2, h3⟩ := ih (a + 1) m h.2 (by omega)
    have hle : ∀ (l : List Int) (f m : Int), Fit f m l → f ≤ m := by
      intro l
      induction l with
      | nil => intro f m h; exact h
      | cons a l ih => intro f m h; have := ih _ _ h.2; have := h.1; omega
    have h4 := hle t _ _ h.2
    refine ⟨fun j hj => ?_, fun j hj => ?_⟩
    · cases j with
      | zero => simp; omega
      | succ j => have := h2 j (by simpa using hj); simp only [List.getD_cons_succ]; omega
    · cases j with
      | zero =>
        have := (h2 0 (by simpa using hj)).1
        simp only [List.getD_cons_zero, List.getD_cons_succ]; omega
      | succ j => simpa using h3 j (by simpa using hj)
theorem fit_ok {m : Int} {c : List Int} (hm : 1 ≤ m ∧ m ≤ 1000) (hl : c.length ≤ 9) (h : Fit 0 m c) : CutsOk m c := by
  have := fit_ris c 0 m h (by omega)
  exact ⟨hm, hl, fun j hj => by have := this.1 j hj; omega, this.2⟩
theorem comb_ok {m : Int} {n : Nat} {c : List Int} (hm : 1 ≤ m ∧ m ≤ 1000) (hn : n ≤ 9) (h : c ∈ combF m.toNat 0 n) : CutsOk m c ∧ c.length = n := by
  have := combF_fit _ _ _ _ h
  refine ⟨fit_ok hm (by omega) ?_, this.2⟩
  have h1 := this.1
  rwa [show (0 : Int) + (m.toNat : Int) = m by omega] at h1
/-- One cut more. -/
theorem CutsOk.snoc {m : Int} {c : List Int} (h : CutsOk m c) {a : Int} (h1 : freeAt c c.length ≤ a) (h2 : a ≤ m - 1) (hl : c.length + 1 ≤ 9) : CutsOk m (c ++ [a]) ∧ freeAt (c ++ [a]) (c ++ [a]).length = a + 1 := by
  have hat : ∀ j, j < c.length → (c ++ [a]).getD j 0 = c.getD j 0 := fun j hj => by
    simp only [List.getD_eq_getElem?_getD]; rw [List.getElem?_append_left hj]
  have hlast : (c ++ [a]).getD c.length 0 = a := by simp [List.getD_eq_getElem?_getD]
  have hf0 := (h.free (Nat.le_refl _)).1
  refine ⟨⟨h.1, by simp; omega, fun j hj => ?_, fun j hj => ?_⟩, ?_⟩
  · have hj' : j < c.length + 1 := by simpa using hj
    by_cases e : j = c.length
    · subst e; rw [hlast]; omega
    · rw [hat j (by omega)]; exact h.2.2.1 j (by omega)
  · have hj' : j + 1 < c.length + 1 := by simpa using hj
    by_cases e : j + 1 = c.length
    · rw [hat j (by omega), e, hlast]
      rw [← e] at h1
      simp only [freeAt] at h1; omega
    · rw [hat j (by omega), hat (j + 1) (by omega)]; exact h.2.2.2 j (by omega)
  · rw [List.length_append]
    show (c ++ [a]).getD c.length 0 + 1 = a + 1
    rw [hlast]
/-- What the model lists from the cuts c on, more ones from the link f on. -/
def selM (m : Int) (c : List Int) (f : Int) (more : Nat) : List (List Int) := ((combF (m - f).toNat f more).map (c ++ ·)).filter (payB m)
theorem selM_zero (m : Int) (c : List Int) (f : Int) : selM m c f 0 = if payB m c = true then [c] else [] := by
  simp only [selM, combF_zero, List.map_cons, List.append_nil, List.map_nil, List.filter_cons, List.filter_nil]
theorem selM_none {m f : Int} {more : Nat} (c : List Int) (h : m < f + (more + 1 : Nat)) : selM m c f (more + 1) = [] := by
  unfold selM
  rw [combF_none _ _ _ (by omega)]; rfl
theorem selM_step {m f : Int} {more : Nat} (c : List Int) (h : f + (more + 1 : Nat) ≤ m) : selM m c f (more + 1) = selM m (c ++ [f]) (f + 1) more ++ selM m c (f + 1) (more + 1) := by
  unfold selM
  obtain ⟨d, hd⟩ : ∃ d, (m - f).toNat = d + 1 := ⟨(m - f - 1).toNat, by omega⟩
  have e : (m - (f + 1)).toNat = d := by omega
  rw [hd, e]
  simp only [combF, List.map_append, List.map_map, List.filter_append]
  congr 3
  funext a
  simp
theorem combF_len : ∀ (d : Nat) (lo : Int) (n : Nat), (combF d lo n).length ≤ (d + 1) ^ n := by
  intro d
  induction d with
  | zero => intro lo n; cases n <;> simp [combF]
  | succ d ih =>
    intro lo n
    cases n with
    | zero => simp [combF]
    | succ n =>
      simp only [combF, List.length_append, List.length_map]
      have h1 := ih (lo + 1) n
      have h2 := ih (lo + 1) (n + 1)
      have h3 : (d + 1) ^ (n + 1) = (d + 1) ^ n * (d + 1) := Nat.pow_succ ..
      have h4 : (d + 1 + 1) ^ (n + 1) = (d + 1 + 1) ^ n * (d + 1 + 1) := Nat.pow_succ ..
      have h5 : (d + 1) ^ n ≤ (d + 1 + 1) ^ n := Nat.pow_le_pow_left (by omega) n
      have h6 : (d + 1) ^ n * (d + 1 + 1) ≤ (d + 1 + 1) ^ n * (d + 1 + 1) := Nat.mul_le_mul_right _ h5
      rw [h4]
      rw [h3] at h2
      have h7 : (d + 1) ^ n * (d + 1 + 1) = (d + 1) ^ n * (d + 1) + (d + 1) ^ n := by rw [Nat.mul_succ]
      omega
theorem selM_len (m : Int) (c : List Int) (f : Int) (more : Nat) : (selM m c f more).length ≤ ((m - f).toNat + 1) ^ more := by
  unfold selM
  refine Nat.le_trans (List.length_filter_le _ _) ?_
  rw [List.length_map]
  exact combF_len _ _ _
theorem allC_sel (m : Int) : allC m = selM m [] 0 (leastC mostC 0 m) := by
  unfold allC selM
  simp
theorem least_le {m : Int} (h1 : 1 ≤ m) (h2 : m ≤ 63) : leastC mostC 0 m ≤ 3 ∧ ((leastC mostC 0 m : Nat) : Int) ≤ m := by
  have h3 := least63 h1 h2
  refine ⟨h3, ?_⟩
  by_cases a : m ≤ 1
  · rw [leastC_eq (c := 0) ⟨Nat.zero_le _, by simpa [mostC] using a, fun j _ hj => by omega⟩]; omega
  · by_cases b : m ≤ 7
    · have hj0 : ∀ j, 0 ≤ j → j < 1 → mostC j < m := by
        intro j _ hj
        obtain rfl : j = 0 := by omega
        simp [mostC]; omega
      rw [leastC_eq (c := 1) ⟨Nat.zero_le _, by simpa [mostC] using b, hj0⟩]; omega
    · omega
/-- How far the program's search is: before c came dn. -/
structure Srch (m : Int) (n : Nat) (dn : List (List Int)) (c : List Int) : Prop where
  all : combF m.toNat 0 n = dn ++ geC m c
  len : c.length = n
theorem Srch.start {m : Int} {n : Nat} (h : (n : Int) ≤ m) : Srch m n [] (seqC 0 n) :=
  ⟨by rw [geC_seq m n 0 (by omega)]; simp, seqC_len n 0⟩
theorem Srch.ok {m : Int} {n : Nat} {dn : List (List Int)} {c : List Int} (h : Srch m n dn c) (hm : 1 ≤ m ∧ m ≤ 1000) (hn : n ≤ 9) : CutsOk m c := by
  have : c ∈ combF m.toNat 0 n := by rw [h.all, geC_rest]; simp
  exact (comb_ok hm hn this).1
theorem Srch.next {m : Int} {n : Nat} {dn : List (List Int)} {c : List Int} (h : Srch m n dn c) {i : Nat} (hi : i < n) (hlt : c.getD i 0 < m - n + i) (hge : ∀ j, i < j → j < n → m - n + j ≤ c.getD j 0) :
    Srch m n (dn ++ [c]) (c.take i ++ seqC (c.getD i 0 + 1) (n - i)) := by
  have hl := h.len
  have hs := restC_step m c i (by omega) (by rw [hl]; exact hlt) (fun j h1 h2 => by rw [hl]; exact hge j h1 (by omega))
  refine ⟨?_, by rw [List.length_append, List.length_take, seqC_len]; omega⟩
  rw [h.all, geC_rest, hs, hl]; simp
theorem Srch.end {m : Int} {n : Nat} {dn : List (List Int)} {c : List Int} (h : Srch m n dn c) (hge : ∀ j, j < n → m - n + j ≤ c.getD j 0) : combF m.toNat 0 n = dn ++ [c] := by
  rw [h.all, geC_rest, restC_none m c (fun j hj => by rw [h.len]; exact hge j (by have := h.len; omega))]
/-- Those that pay, as they are counted, and the first one. -/
def pays (m : Int) (dn : List (List Int)) : Nat := (dn.filter (payB m)).length
def frst (m : Int) (dn : List (List Int)) : List Int := (dn.filter (payB m)).headD []
theorem pays_yes {m : Int} {dn : List (List Int)} {c : List Int} (h : payB m c = true) : pays m (dn ++ [c]) = pays m dn + 1 := by
  simp [pays, List.filter_append, h]
theorem pays_no {m : Int} {dn : List (List Int)} {c : List Int} (h : payB m c = false) : pays m (dn ++ [c]) = pays m dn := by
  simp [pays, List.filter_append, h]
theorem frst_no {m : Int} {dn : List (List Int)} {c : List Int} (h : payB m c = false) : frst m (dn ++ [c]) = frst m dn := by
  simp [frst, List.filter_append, h]
theorem frst_new {m : Int} {dn : List (List Int)} {c : List Int} (h : payB m c = true) (h0 : pays m dn = 0) : frst m (dn ++ [c]) = c := by
  have : dn.filter (payB m) = [] := List.length_eq_zero_iff.1 h0
  simp [frst, List.filter_append, this, h]
theorem frst_old {m : Int} {dn : List (List Int)} (c : List Int) (h0 : pays m dn ≠ 0) : frst m (dn ++ [c]) = frst m dn := by
  unfold pays at h0
  unfold frst
  rw [List.filter_append]
  cases e : dn.filter (payB m) with
  | nil => rw [e] at h0; simp at h0
  | cons a l => simp
theorem geC_next_len {m : Int} {n : Nat} {dn : List (List Int)} {c c' : List Int} (h : Srch m n dn c) (h' : Srch m n (dn ++ [c]) c') : (geC m c').length < (geC m c).length := by
  have e := h.all.symm.trans h'.all
  have := congrArg List.length e
  simp at this
  omega
theorem pays_le {m : Int} {n : Nat} {dn : List (List Int)} {c : List Int} (h : Srch m n dn c) : pays m dn ≤ (m.toNat + 1) ^ n := by
  have h1 := combF_len m.toNat 0 n
  rw [h.all, List.length_append] at h1
  have := List.length_filter_le (payB m) dn
  unfold pays
  omega

end Go.Proofs.Ytnbbfpanidmpgaa
