/-
  Pieces on both sides, in plain numbers: how many signs have a value, the fewest pieces that are not left, from which piece on they suffice. No condition; no program is spoken of here.
-/
import Derived.Test.YtcgifmoddojnmaaPure
namespace Go.Proofs.Ytcgifmoddojnmaa

/-- How many signs have a value. -/
def Sy : List Int → Int → Int
  | [], s => if s = 0 then 1 else 0
  | a :: l, s => Sy l s + Sy l (s - a) + Sy l (s + a)
theorem Sy_snoc : ∀ (l : List Int) (a s : Int), Sy (l ++ [a]) s = Sy l s + Sy l (s - a) + Sy l (s + a) := by
  intro l
  induction l with
  | nil => intro a s; rfl
  | cons b l ih =>
    intro a s
    simp only [List.cons_append, Sy, ih]
    rw [show s - b - a = s - a - b by omega, show s - b + a = s + a - b by omega, show s + b - a = s - a + b by omega, show s + b + a = s + a + b by omega]
    omega
theorem Sy_even : ∀ (l : List Int) (s : Int), Sy l (-s) = Sy l s := by
  intro l
  induction l with
  | nil => intro s; simp only [Sy]; by_cases h : s = 0 <;> simp [h]
  | cons a l ih =>
    intro s
    simp only [Sy]
    rw [show -s - a = -(s + a) by omega, show -s + a = -(s - a) by omega, ih, ih, ih]
    omega
theorem Sy_bd : ∀ (l : List Int) (s : Int), 0 ≤ Sy l s ∧ Sy l s ≤ 3 ^ l.length := by
  intro l
  induction l with
  | nil => intro s; simp only [Sy]; split <;> simp
  | cons a l ih =>
    intro s
    have h1 := ih s
    have h2 := ih (s - a)
    have h3 := ih (s + a)
    simp only [Sy, List.length_cons]
    have e : (3 : Int) ^ (l.length + 1) = 3 ^ l.length + 3 ^ l.length + 3 ^ l.length := by rw [Int.pow_succ]; omega
    omega
theorem Sy_bd20 (l : List Int) (s : Int) (h : l.length ≤ 20) : 0 ≤ Sy l s ∧ Sy l s ≤ 3486784401 := by
  have h1 := Sy_bd l s
  have h2 : (3 : Int) ^ l.length ≤ 3 ^ 20 := by
    have := Nat.pow_le_pow_right (show 0 < 3 by omega) h
    exact_mod_cast this
  have h3 : (3 : Int) ^ 20 = 3486784401 := by decide
  omega
theorem sumFrom_shift (l : List Int) : ∀ (s a : Int), sumFrom (s + a) l = a + sumFrom s l := by
  induction l with
  | nil => intro s a; simp only [sumFrom]; omega
  | cons b l ih => intro s a; simp only [sumFrom]; rw [show s + a + b = (s + b) + a by omega, ih]
theorem Sy_big : ∀ (l : List Int) (s : Int), (∀ x ∈ l, 1 ≤ x ∧ x ≤ 10000) → sumFrom 0 l < s → Sy l s = 0 := by
  intro l
  induction l with
  | nil => intro s _ h; simp only [sumFrom] at h; simp only [Sy]; rw [if_neg (by omega)]
  | cons a l ih =>
    intro s h hs
    have ha := h a (by simp)
    have e : sumFrom 0 (a :: l) = a + sumFrom 0 l := by simp only [sumFrom]; rw [sumFrom_shift]
    simp only [Sy]
    rw [ih s (fun x hx => h x (by simp [hx])) (by omega), ih (s - a) (fun x hx => h x (by simp [hx])) (by omega), ih (s + a) (fun x hx => h x (by simp [hx])) (by omega)]
    rfl
theorem Sy_small (l : List Int) (s : Int) (h : ∀ x ∈ l, 1 ≤ x ∧ x ≤ 10000) (hs : s < -sumFrom 0 l) : Sy l s = 0 := by
  rw [← Sy_even]; exact Sy_big l (-s) h (by omega)
theorem Sy_cons_zero {a : Int} {l : List Int} {s : Int} (h : Sy (a :: l) s = 0) : Sy l s = 0 ∧ Sy l (s - a) = 0 ∧ Sy l (s + a) = 0 := by
  have h1 := Sy_bd l s
  have h2 := Sy_bd l (s - a)
  have h3 := Sy_bd l (s + a)
  simp only [Sy] at h
  omega

/-- One way more: a ways with b pieces at least, and c ways with d pieces behind one more. -/
def orB (a b c d : Int) : Int := if c = 0 then b else if a = 0 then d + 1 else min b (d + 1)
def orC (a b c i : Int) : Int := if c = 0 then b else if a = 0 then i else b
/-- The fewest pieces that are not left; 0 where there is no way. -/
def Fs : List Int → Int → Int
  | [], _ => 0
  | a :: l, s => orB (Sy l s + Sy l (s - a)) (orB (Sy l s) (Fs l s) (Sy l (s - a)) (Fs l (s - a))) (Sy l (s + a)) (Fs l (s + a))
/-- The greatest index from which on the pieces suffice (i: the index of the list's head); 0 where there is no way. -/
def Gs : Int → List Int → Int → Int
  | i, [], s => if s = 0 then i else 0
  | i, a :: l, s => orC (Sy l s + Sy l (s - a)) (orC (Sy l s) (Gs (i + 1) l s) (Sy l (s - a)) i) (Sy l (s + a)) i
theorem Fs_zero : ∀ (l : List Int) (s : Int), Sy l s = 0 → Fs l s = 0 := by
  intro l
  induction l with
  | nil => intro s _; rfl
  | cons a l ih =>
    intro s h
    obtain ⟨h1, h2, h3⟩ := Sy_cons_zero h
    simp only [Fs, orB, h1, h2, h3, if_pos, ih s h1]
theorem Gs_zero : ∀ (l : List Int) (i s : Int), Sy l s = 0 → Gs i l s = 0 := by
  intro l
  induction l with
  | nil => intro i s h; simp only [Sy] at h; simp only [Gs]; split at h <;> simp_all
  | cons a l ih =>
    intro i s h
    obtain ⟨h1, h2, h3⟩ := Sy_cons_zero h
    simp only [Gs, orC, h1, h2, h3, if_pos, ih _ s h1]
theorem Fs_bd : ∀ (l : List Int) (s : Int), 0 ≤ Fs l s ∧ Fs l s ≤ l.length := by
  intro l
  induction l with
  | nil => intro s; simp [Fs]
  | cons a l ih =>
    intro s
    have h1 := ih s
    have h2 := ih (s - a)
    have h3 := ih (s + a)
    simp only [Fs, orB, List.length_cons]
    repeat' split
    all_goals omega
theorem Gs_bd : ∀ (l : List Int) (i s : Int), 0 ≤ i → 0 ≤ Gs i l s ∧ Gs i l s ≤ i + l.length := by
  intro l
  induction l with
  | nil => intro i s hi; simp only [Gs, List.length_nil]; split <;> omega
  | cons a l ih =>
    intro i s hi
    have h1 := ih (i + 1) s (by omega)
    simp only [Gs, orC, List.length_cons]
    repeat' split
    all_goals omega
theorem orB_swap (a b c d e f : Int) (ha : 0 ≤ a) (hc : 0 ≤ c) (he : 0 ≤ e) : orB (a + c) (orB a b c d) e f = orB (a + e) (orB a b e f) c d := by
  simp only [orB]
  by_cases h1 : a = 0 <;> by_cases h2 : c = 0 <;> by_cases h3 : e = 0 <;> simp [h1, h2, h3]
  all_goals (try omega)
  all_goals (repeat' split)
  all_goals omega
theorem orC_swap (a b c e i : Int) (ha : 0 ≤ a) (hc : 0 ≤ c) (he : 0 ≤ e) : orC (a + c) (orC a b c i) e i = orC (a + e) (orC a b e i) c i := by
  simp only [orC]
  by_cases h1 : a = 0 <;> by_cases h2 : c = 0 <;> by_cases h3 : e = 0 <;> simp [h1, h2, h3]
  all_goals (try omega)
  all_goals (repeat' split)
  all_goals omega
theorem Fs_even : ∀ (l : List Int) (s : Int), Fs l (-s) = Fs l s := by
  intro l
  induction l with
  | nil => intro s; rfl
  | cons a l ih =>
    intro s
    simp only [Fs]
    rw [show -s - a = -(s + a) by omega, show -s + a = -(s - a) by omega, ih, ih, ih, Sy_even, Sy_even, Sy_even]
    exact (orB_swap _ _ _ _ _ _ (Sy_bd l s).1 (Sy_bd l _).1 (Sy_bd l _).1)
theorem Gs_even : ∀ (l : List Int) (i s : Int), Gs i l (-s) = Gs i l s := by
  intro l
  induction l with
  | nil => intro i s; simp only [Gs]; by_cases h : s = 0 <;> simp [h]
  | cons a l ih =>
    intro i s
    simp only [Gs]
    rw [show -s - a = -(s + a) by omega, show -s + a = -(s - a) by omega, ih, Sy_even, Sy_even, Sy_even]
    exact (orC_swap _ _ _ _ _ (Sy_bd l s).1 (Sy_bd l _).1 (Sy_bd l _).1)

/-- The pieces from n on suffice just where the start is not before them. -/
theorem Gs_gt : ∀ (l : List Int) (i s : Int) (n : Nat), n ≤ l.length → ((i + n ≤ Gs i l s ∧ Sy l s ≠ 0) ↔ Sy (l.drop n) s ≠ 0) := by
  intro l
  induction l with
  | nil =>
    intro i s n hn
    obtain rfl : n = 0 := by simpa using hn
    simp only [List.drop_nil, Gs, Sy]
    by_cases h : s = 0 <;> simp [h]
  | cons a l ih =>
    intro i s n hn
    have b1 := Sy_bd l s
    have b2 := Sy_bd l (s - a)
    have b3 := Sy_bd l (s + a)
    cases n with
    | zero =>
      have h0 := ih (i + 1) s 0 (Nat.zero_le _)
      simp only [List.drop_zero] at h0 ⊢
      constructor
      · exact fun h => h.2
      · intro h
        refine ⟨?_, h⟩
        simp only [Sy] at h
        have h1 := fun z => (h0.2 z).1
        simp only [Gs, orC]
        by_cases c1 : Sy l s = 0
        · by_cases c2 : Sy l (s - a) = 0
          · by_cases c3 : Sy l (s + a) = 0
            · omega
            · simp [c1, c2, c3]
          · by_cases c3 : Sy l (s + a) = 0
            · simp [c1, c2, c3]
            · simp [c1, c2, c3]
        · have h2 := h1 c1
          have e0 : Sy l s + Sy l (s - a) ≠ 0 := by omega
          simp only [if_neg e0, if_neg c1, ite_self]
          omega
    | succ m =>
      have h0 := ih (i + 1) s m (by simpa using hn)
      simp only [List.drop_succ_cons]
      rw [← h0]
      by_cases c1 : Sy l s = 0
      · constructor
        · intro h
          have h1 := h.1
          have h2 := h.2
          simp only [Sy] at h2
          simp only [Gs, orC, c1, Int.zero_add, if_pos, Gs_zero l _ s c1] at h1
          exfalso
          by_cases c2 : Sy l (s - a) = 0 <;> by_cases c3 : Sy l (s + a) = 0 <;> simp [c2, c3] at h1 <;> omega
        · intro h; exact absurd c1 h.2
      · have e0 : Sy l s + Sy l (s - a) ≠ 0 := by omega
        simp only [Gs, orC, Sy, if_neg e0, if_neg c1, ite_self]
        constructor
        · intro h; exact ⟨by omega, c1⟩
        · intro h; exact ⟨by omega, by omega⟩
theorem Gs_next {xs : List Int} {k : Nat} (hk : k < xs.length) (s : Int) : (k : Int) < Gs 0 xs s ↔ Sy (xs.drop (k + 1)) s ≠ 0 := by
  rw [← Gs_gt xs 0 s (k + 1) hk]
  constructor
  · intro h
    refine ⟨by omega, fun z => ?_⟩
    rw [Gs_zero xs 0 s z] at h
    omega
  · intro h; omega
theorem Sy_drop {xs : List Int} {k : Nat} {x : Int} (h : k < xs.length) (hx : xs.getD k 0 = x) (s : Int) : Sy (xs.drop k) s = Sy (xs.drop (k + 1)) s + Sy (xs.drop (k + 1)) (s - x) + Sy (xs.drop (k + 1)) (s + x) := by
  rw [drop_cons xs k h, hx]; rfl
theorem Sy_take {xs : List Int} {k : Nat} {x : Int} (h : k < xs.length) (hx : xs.getD k 0 = x) (s : Int) : Sy (xs.take (k + 1)) s = Sy (xs.take k) s + Sy (xs.take k) (s - x) + Sy (xs.take k) (s + x) := by
  rw [List.take_add_one, List.getElem?_eq_getElem h]
  rw [List.getD_eq_getElem?_getD, List.getElem?_eq_getElem h] at hx
  simp only [Option.getD_some] at hx
  rw [hx]
  exact Sy_snoc _ _ _
/-- The model's fewest pieces: M where there is no way. -/
def Hm (M : Int) : List Int → Int → Int
  | [], s => if s = 0 then 0 else M
  | a :: l, s => min (min (Hm M l s) (min M (Hm M l (s - a) + 1))) (min M (Hm M l (s + a) + 1))
theorem Hm_le {M : Int} (hM : 0 ≤ M) : ∀ (l : List Int) (s : Int), 0 ≤ Hm M l s ∧ Hm M l s ≤ M := by
  intro l
  induction l with
  | nil => intro s; simp only [Hm]; split <;> omega
  | cons a l ih =>
    intro s
    have h1 := ih s
    have h2 := ih (s - a)
    have h3 := ih (s + a)
    simp only [Hm]
    omega
theorem cap_min (M x y : Int) : min M (min x y + 1) = min (min M (x + 1)) (min M (y + 1)) := by omega
theorem min9 (a b c d e f g h i : Int) : min (min (min (min a b) c) (min (min d e) f)) (min (min g h) i) = min (min (min (min a d) g) (min (min b e) h)) (min (min c f) i) := by
  apply Int.le_antisymm
  · simp only [Int.le_min]; omega
  · simp only [Int.le_min]; omega
theorem Hm_snoc {M : Int} : ∀ (l : List Int) (a s : Int), Hm M (l ++ [a]) s = min (min (Hm M l s) (min M (Hm M l (s - a) + 1))) (min M (Hm M l (s + a) + 1)) := by
  intro l
  induction l with
  | nil => intro a s; rfl
  | cons b l ih =>
    intro a s
    simp only [List.cons_append, Hm, ih]
    rw [show s - a - b = s - b - a by omega, show s - a + b = s + b - a by omega, show s + a - b = s - b + a by omega, show s + a + b = s + b + a by omega]
    simp only [cap_min]
    exact min9 _ _ _ _ _ _ _ _ _
theorem Hm_no {M : Int} (_hM : 0 ≤ M) : ∀ (l : List Int) (s : Int), Sy l s = 0 → Hm M l s = M := by
  intro l
  induction l with
  | nil => intro s h; simp only [Sy] at h; simp only [Hm]; split at h <;> simp_all
  | cons a l ih =>
    intro s h
    obtain ⟨h1, h2, h3⟩ := Sy_cons_zero h
    simp only [Hm]
    rw [ih s h1, ih (s - a) h2, ih (s + a) h3]
    omega
set_option maxHeartbeats 4000000 in
theorem Hm_yes {M : Int} : ∀ (l : List Int) (s : Int), (l.length : Int) < M → Sy l s ≠ 0 → Hm M l s = Fs l s := by
  intro l
  induction l with
  | nil => intro s _ h; simp only [Sy] at h; simp only [Hm, Fs]; split at h <;> simp_all
  | cons a l ih =>
    intro s hM h
    simp only [List.length_cons] at hM
    have b1 := Fs_bd l s
    have b2 := Fs_bd l (s - a)
    have b3 := Fs_bd l (s + a)
    have p1 := (Sy_bd l s).1
    have p2 := (Sy_bd l (s - a)).1
    have p3 := (Sy_bd l (s + a)).1
    have n1 := Hm_no (M := M) (by omega) l s
    have n2 := Hm_no (M := M) (by omega) l (s - a)
    have n3 := Hm_no (M := M) (by omega) l (s + a)
    have y1 := ih s (by omega)
    have y2 := ih (s - a) (by omega)
    have y3 := ih (s + a) (by omega)
    simp only [Hm, Fs, orB, Sy] at h ⊢
    by_cases c1 : Sy l s = 0 <;> by_cases c2 : Sy l (s - a) = 0 <;> by_cases c3 : Sy l (s + a) = 0
    all_goals
      first | rw [n1 c1] | rw [y1 c1]
      first | rw [n2 c2] | rw [y2 c2]
      first | rw [n3 c3] | rw [y3 c3]
      repeat' split
      all_goals omega
theorem Hm_take {M : Int} {xs : List Int} {k : Nat} {x : Int} (h : k < xs.length) (hx : xs.getD k 0 = x) (s : Int) : Hm M (xs.take (k + 1)) s = min (min (Hm M (xs.take k) s) (min M (Hm M (xs.take k) (s - x) + 1))) (min M (Hm M (xs.take k) (s + x) + 1)) := by
  rw [List.take_add_one, List.getElem?_eq_getElem h]
  rw [List.getD_eq_getElem?_getD, List.getElem?_eq_getElem h] at hx
  simp only [Option.getD_some] at hx
  rw [hx]
  exact Hm_snoc _ _ _
end Go.Proofs.Ytcgifmoddojnmaa
