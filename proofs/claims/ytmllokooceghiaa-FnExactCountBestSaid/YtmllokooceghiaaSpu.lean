/-
  Stamps, plainly: the fewest for each value, values of just so many, the reach, and how many ways there are. No condition; no program is spoken of here.
-/
import Derived.Test.YtmllokooceghiaaCpure
namespace Go.Proofs.Ytmllokooceghiaa

/-- Stamps: 1 to 6 kinds, increasing, each 1..500. -/
structure Stm (st : List Int) : Prop where
  one : 1 ≤ st.length
  six : st.length ≤ 6
  ris : RisTo st 1 500 st.length
noncomputable def stmB (st : List Int) : Bool := @decide (Stm st) (Classical.propDecidable _)
theorem stmB_yes {st : List Int} (h : Stm st) : stmB st = true := by simp [stmB, h]
theorem stmB_no {st : List Int} (h : ¬ Stm st) : stmB st = false := by simp [stmB, h]
theorem stmB_iff {st : List Int} : stmB st = true ↔ Stm st := by simp [stmB]
theorem stmB_ris {st : List Int} (h1 : 1 ≤ st.length) (h2 : st.length ≤ 6) : stmB st = risB st 1 500 := by
  by_cases h : RisTo st 1 500 st.length
  · rw [stmB_yes ⟨h1, h2, h⟩, risB_yes h]
  · rw [stmB_no fun g => h g.ris, risB_no h]
theorem Stm.mem {st : List Int} (h : Stm st) : ∀ x ∈ st, 1 ≤ x ∧ x ≤ 500 := by
  intro x hx
  obtain ⟨j, hj, rfl⟩ := List.getElem_of_mem hx
  have := h.ris.1 j hj
  simpa [List.getD_eq_getElem?_getD, List.getElem?_eq_getElem hj] using this
def lastS (st : List Int) : Int := st.getD (st.length - 1) 0
theorem Stm.last_bd {st : List Int} (h : Stm st) : 1 ≤ lastS st ∧ lastS st ≤ 500 := h.ris.1 _ (by have := h.one; omega)
theorem Stm.le_last {st : List Int} (h : Stm st) : ∀ x ∈ st, x ≤ lastS st := by
  intro x hx
  obtain ⟨j, hj, rfl⟩ := List.getElem_of_mem hx
  have hm : ∀ (d i : Nat), i + d < st.length → st.getD i 0 ≤ st.getD (i + d) 0 := by
    intro d
    induction d with
    | zero => intro i _; exact Int.le_refl _
    | succ d ih =>
      intro i hi
      have h1 := ih i (by omega)
      have h2 := h.ris.2 (i + d) (by omega)
      have e : i + (d + 1) = i + d + 1 := by omega
      rw [e]; omega
  have h1 := hm (st.length - 1 - j) j (by omega)
  have e : j + (st.length - 1 - j) = st.length - 1 := by omega
  rw [e] at h1
  unfold lastS
  simpa [List.getD_eq_getElem?_getD, List.getElem?_eq_getElem hj] using h1

/-- The fewest stamps for each value; stNone where none are together this value. -/
def stNone : Int := 1000000
def fwStep (L : Nat → Int) (v : Nat) : List Int → Int → Int
  | [], a => a
  | n :: t, a => fwStep L v t (if n ≤ (v : Int) then min a (L (v - n.toNat) + 1) else a)
theorem fwStep_snoc (L : Nat → Int) (v : Nat) : ∀ (l : List Int) (a n : Int), fwStep L v (l ++ [n]) a = if n ≤ (v : Int) then min (fwStep L v l a) (L (v - n.toNat) + 1) else fwStep L v l a := by
  intro l
  induction l with
  | nil => intro a n; rfl
  | cons m t ih => intro a n; rw [List.cons_append, fwStep, ih]; rfl
theorem fwStep_congr {L M : Nat → Int} {v : Nat} : ∀ (l : List Int) (a : Int), (∀ n ∈ l, 1 ≤ n) → (∀ j, j < v → L j = M j) → fwStep L v l a = fwStep M v l a := by
  intro l
  induction l with
  | nil => intro a _ _; rfl
  | cons n t ih =>
    intro a h1 h2
    have hn := h1 n (by simp)
    simp only [fwStep]
    by_cases h : n ≤ (v : Int)
    · rw [if_pos h, if_pos h, h2 (v - n.toNat) (by omega)]
      exact ih _ (fun x hx => h1 x (by simp [hx])) h2
    · rw [if_neg h, if_neg h]
      exact ih _ (fun x hx => h1 x (by simp [hx])) h2
def fewL (st : List Int) : Nat → List Int
  | 0 => [0]
  | m + 1 => fewL st m ++ [fwStep (fun j => (fewL st m).getD j 0) (m + 1) st stNone]
theorem fewL_len (st : List Int) (m : Nat) : (fewL st m).length = m + 1 := by
  induction m with
  | zero => rfl
  | succ m ih => simp [fewL, ih]
def fw (st : List Int) (v : Nat) : Int := (fewL st v).getD v 0
theorem fewL_at (st : List Int) : ∀ (m v : Nat), v ≤ m → (fewL st m).getD v 0 = fw st v := by
  intro m
  induction m with
  | zero => intro v h; have : v = 0 := by omega
            subst this; rfl
  | succ m ih =>
    intro v h
    by_cases e : v = m + 1
    · subst e; rfl
    · rw [← ih v (by omega)]
      have hl := fewL_len st m
      rw [fewL, List.getD_eq_getElem?_getD, List.getElem?_append_left (by omega), ← List.getD_eq_getElem?_getD]
theorem fw_zero (st : List Int) : fw st 0 = 0 := rfl
theorem fw_step {st : List Int} (h : ∀ n ∈ st, 1 ≤ n) (v : Nat) : fw st (v + 1) = fwStep (fw st) (v + 1) st stNone := by
  have hl := fewL_len st v
  have e : fw st (v + 1) = fwStep (fun j => (fewL st v).getD j 0) (v + 1) st stNone := by
    unfold fw
    rw [fewL, List.getD_eq_getElem?_getD, List.getElem?_append_right (by omega), hl]
    simp
  rw [e]
  exact fwStep_congr _ _ h fun j hj => fewL_at st v j (by omega)

/-- A value of just k stamps. -/
def Mk (st : List Int) : Nat → Int → Prop
  | 0, v => v = 0
  | k + 1, v => ∃ n ∈ st, Mk st k (v - n)
theorem Mk.bd {st : List Int} {lo hi : Int} (h : ∀ n ∈ st, lo ≤ n ∧ n ≤ hi) : ∀ (k : Nat) (v : Int), Mk st k v → lo * k ≤ v ∧ v ≤ hi * k := by
  intro k
  induction k with
  | zero => intro v hv; simp only [Mk] at hv; subst hv; simp
  | succ k ih =>
    intro v hv
    obtain ⟨n, hn, hk⟩ := hv
    have h1 := h n hn
    have h2 := ih _ hk
    have e1 : lo * ((k + 1 : Nat) : Int) = lo * k + lo := by rw [Int.natCast_succ, Int.mul_add, Int.mul_one]
    have e2 : hi * ((k + 1 : Nat) : Int) = hi * k + hi := by rw [Int.natCast_succ, Int.mul_add, Int.mul_one]
    omega
theorem fwStep_le (L : Nat → Int) (v : Nat) : ∀ (l : List Int) (a : Int), fwStep L v l a ≤ a ∧ ∀ n ∈ l, n ≤ (v : Int) → fwStep L v l a ≤ L (v - n.toNat) + 1 := by
  intro l
  induction l with
  | nil => intro a; exact ⟨Int.le_refl _, fun n hn => by cases hn⟩
  | cons m t ih =>
    intro a
    have h1 := ih (if m ≤ (v : Int) then min a (L (v - m.toNat) + 1) else a)
    simp only [fwStep]
    refine ⟨?_, fun n hn hnv => ?_⟩
    · split at h1
      · rename_i hm; rw [if_pos hm]; have := h1.1; omega
      · rename_i hm; rw [if_neg hm]; exact h1.1
    · rcases List.mem_cons.1 hn with rfl | hn
      · rw [if_pos hnv] at h1 ⊢; have := h1.1; omega
      · exact h1.2 n hn hnv
theorem fwStep_is (L : Nat → Int) (v : Nat) : ∀ (l : List Int) (a : Int), fwStep L v l a = a ∨ ∃ n ∈ l, n ≤ (v : Int) ∧ fwStep L v l a = L (v - n.toNat) + 1 := by
  intro l
  induction l with
  | nil => intro a; exact .inl rfl
  | cons m t ih =>
    intro a
    simp only [fwStep]
    rcases ih (if m ≤ (v : Int) then min a (L (v - m.toNat) + 1) else a) with h | ⟨n, hn, hnv, h⟩
    · rw [h]
      by_cases hm : m ≤ (v : Int)
      · rw [if_pos hm]
        by_cases h2 : a ≤ L (v - m.toNat) + 1
        · exact .inl (by omega)
        · exact .inr ⟨m, by simp, hm, by omega⟩
      · rw [if_neg hm]; exact .inl rfl
    · exact .inr ⟨n, by simp [hn], hnv, h⟩
theorem fw_bd {st : List Int} (h : ∀ n ∈ st, 1 ≤ n) : ∀ v : Nat, 0 ≤ fw st v ∧ fw st v ≤ stNone := by
  intro v
  induction v using Nat.strongRecOn with
  | ind v ih =>
    cases v with
    | zero => rw [fw_zero]; decide
    | succ v =>
      rw [fw_step h]
      refine ⟨?_, (fwStep_le _ _ _ _).1⟩
      rcases fwStep_is (fw st) (v + 1) st stNone with e | ⟨n, hn, hnv, e⟩
      · rw [e]; decide
      · rw [e]
        have h1 := h n hn
        have := (ih (v + 1 - n.toNat) (by omega)).1
        omega
/-- Few enough: the table tells the least number of stamps. -/
theorem fw_mk {st : List Int} (h : ∀ n ∈ st, 1 ≤ n) : ∀ v : Nat, fw st v < stNone → Mk st (fw st v).toNat v := by
  intro v
  induction v using Nat.strongRecOn with
  | ind v ih =>
    intro hv
    cases v with
    | zero => rw [fw_zero]; rfl
    | succ v =>
      rw [fw_step h] at hv ⊢
      rcases fwStep_is (fw st) (v + 1) st stNone with e | ⟨n, hn, hnv, e⟩
      · omega
      · rw [e] at hv ⊢
        have h1 := h n hn
        have hb := (fw_bd h (v + 1 - n.toNat)).1
        have h2 := ih (v + 1 - n.toNat) (by omega) (by omega)
        have e2 : (fw st (v + 1 - n.toNat) + 1).toNat = (fw st (v + 1 - n.toNat)).toNat + 1 := by omega
        rw [e2]
        refine ⟨n, hn, ?_⟩
        have e3 : ((v + 1 : Nat) : Int) - n = ((v + 1 - n.toNat : Nat) : Int) := by omega
        rw [e3]; exact h2
theorem fw_least {st : List Int} (h : ∀ n ∈ st, 1 ≤ n) : ∀ (k v : Nat), Mk st k v → fw st v ≤ k := by
  intro k
  induction k with
  | zero => intro v hv; simp only [Mk] at hv; have : v = 0 := by omega
            subst this; rw [fw_zero]; simp
  | succ k ih =>
    intro v hv
    obtain ⟨n, hn, hk⟩ := hv
    have h1 := h n hn
    have hn0 : 0 ≤ (v : Int) - n := by
      by_cases h0 : 0 ≤ (v : Int) - n
      · exact h0
      · exfalso
        have hge : ∀ (k : Nat) (u : Int), Mk st k u → 0 ≤ u := by
          intro k
          induction k with
          | zero => intro u hu; simp only [Mk] at hu; omega
          | succ k ih2 => intro u hu; obtain ⟨m, hm, hk2⟩ := hu; have := ih2 _ hk2; have := h m hm; omega
        exact h0 (hge k _ hk)
    obtain ⟨u, rfl⟩ : ∃ u, v = u + 1 := ⟨v - 1, by omega⟩
    have e3 : ((u + 1 : Nat) : Int) - n = ((u + 1 - n.toNat : Nat) : Int) := by omega
    rw [e3] at hk
    have h2 := ih _ hk
    rw [fw_step h]
    have h3 := (fwStep_le (fw st) (u + 1) st stNone).2 n hn (by omega)
    omega
theorem fw_iff {st : List Int} (h : ∀ n ∈ st, 1 ≤ n) {r : Nat} (hr : (r : Int) < stNone) (v : Nat) : fw st v ≤ r ↔ ∃ k, k ≤ r ∧ Mk st k v := by
  constructor
  · intro h1
    have hb := (fw_bd h v).1
    exact ⟨(fw st v).toNat, by omega, fw_mk h v (by omega)⟩
  · rintro ⟨k, hk, hm⟩
    have := fw_least h k v hm
    omega

/-- The reach. -/
def rchG (st : List Int) (room : Int) : Nat → Nat → Nat
  | 0, r => r
  | f + 1, r => if fw st (r + 1) ≤ room then rchG st room f (r + 1) else r
def rch (st : List Int) (room : Int) : Nat := rchG st room (room * lastS st + 1).toNat 0
theorem fw_far {st : List Int} (h : Stm st) {room : Nat} (hr : room ≤ 8) {v : Nat} (hv : (room : Int) * lastS st < v) : ¬ fw st v ≤ (room : Int) := by
  intro h1
  have h2 : ∀ n ∈ st, 1 ≤ n := fun n hn => (h.mem n hn).1
  obtain ⟨k, hk, hm⟩ := (fw_iff h2 (by unfold stNone; omega) v).1 h1
  have h3 := (Mk.bd (st := st) (lo := 1) (hi := lastS st) (fun n hn => ⟨h2 n hn, h.le_last n hn⟩) k v hm).2
  have h4 : lastS st * (k : Int) ≤ lastS st * (room : Int) := Int.mul_le_mul_of_nonneg_left (by omega) (by have := h.last_bd; omega)
  rw [Int.mul_comm (room : Int)] at hv
  omega
theorem rchG_spec (st : List Int) (room : Int) : ∀ (f r : Nat), r ≤ rchG st room f r ∧ rchG st room f r ≤ r + f ∧ (∀ j, r < j → j ≤ rchG st room f r → fw st j ≤ room) ∧ (rchG st room f r < r + f → ¬ fw st (rchG st room f r + 1) ≤ room) := by
  intro f
  induction f with
  | zero => intro r; refine ⟨Nat.le_refl _, Nat.le_refl _, fun j h1 h2 => ?_, fun h => ?_⟩
            · simp only [rchG] at h2; omega
            · simp only [rchG] at h; omega
  | succ f ih =>
    intro r
    simp only [rchG]
    by_cases h : fw st (r + 1) ≤ room
    · rw [if_pos h]
      obtain ⟨h1, h2, h3, h4⟩ := ih (r + 1)
      refine ⟨by omega, by omega, fun j hj1 hj2 => ?_, fun hlt => h4 (by omega)⟩
      by_cases e : j = r + 1
      · subst e; exact h
      · exact h3 j (by omega) hj2
    · rw [if_neg h]
      exact ⟨Nat.le_refl _, by omega, fun j h1 h2 => by omega, fun _ => h⟩
theorem rch_spec {st : List Int} (h : Stm st) {room : Nat} (hr : room ≤ 8) : (rch st room : Int) ≤ room * lastS st ∧ (∀ j, j ≤ rch st room → fw st j ≤ (room : Int)) ∧ ¬ fw st (rch st room + 1) ≤ (room : Int) := by
  have hb := h.last_bd
  have h0 : 0 ≤ (room : Int) * lastS st := Int.mul_nonneg (by omega) (by omega)
  obtain ⟨h1, h2, h3, h4⟩ := rchG_spec st room ((room : Int) * lastS st + 1).toNat 0
  have hle : (rch st room : Int) ≤ room * lastS st := by
    apply Classical.byContradiction
    intro hn
    exact fw_far h hr (v := rch st room) (by omega) (h3 _ (by unfold rch at hn ⊢; omega) (Nat.le_refl _))
  refine ⟨hle, fun j hj => ?_, h4 (by unfold rch at hle; omega)⟩
  by_cases e : j = 0
  · subst e; rw [fw_zero]; omega
  · exact h3 j (by omega) hj
theorem rch_eq {st : List Int} (h : Stm st) {room : Nat} (hr : room ≤ 8) {r : Nat} (h1 : ∀ j, j ≤ r → fw st j ≤ (room : Int)) (h2 : ¬ fw st (r + 1) ≤ (room : Int)) : r = rch st room := by
  obtain ⟨_, g1, g2⟩ := rch_spec h hr
  apply Classical.byContradiction
  intro hne
  rcases Nat.lt_or_gt_of_ne hne with hlt | hlt
  · exact h2 (g1 (r + 1) (by omega))
  · exact g2 (h1 (rch st room + 1) (by omega))

/-- How many ways there are with some kinds, and room for r. -/
def wwS (F : Nat → Int → Int) (n : Int) : Nat → Int → Int
  | 0, v => if v < 0 then 0 else F 0 v
  | r + 1, v => if v < 0 then 0 else F (r + 1) v + wwS F n r (v - n)
def ww : List Int → Nat → Int → Int
  | [], _, v => if v = 0 then 1 else 0
  | n :: t, r, v => wwS (ww t) n r v
theorem wwS_bd {F : Nat → Int → Int} {n B : Int} (hF : ∀ r v, r ≤ 8 → 0 ≤ F r v ∧ F r v ≤ B) : ∀ (r : Nat) (v : Int), r ≤ 8 → 0 ≤ wwS F n r v ∧ wwS F n r v ≤ (r + 1) * B := by
  have hB : 0 ≤ B := by have := hF 0 0 (by omega); omega
  intro r
  induction r with
  | zero => intro v hr; have h1 := hF 0 v hr; simp only [wwS]; split <;> simp <;> omega
  | succ r ih =>
    intro v hr
    have h1 := hF (r + 1) v hr
    have h2 := ih (v - n) (by omega)
    have e : (((r + 1 : Nat) : Int) + 1) * B = (r + 1) * B + B := by rw [Int.natCast_succ, Int.add_mul (r + 1 : Int) 1 B, Int.one_mul]
    have h3 : 0 ≤ ((r : Int) + 1) * B := Int.mul_nonneg (by omega) hB
    simp only [wwS]
    rw [e]
    split <;> omega
theorem ww_bd : ∀ (l : List Int) (r : Nat) (v : Int), r ≤ 8 → 0 ≤ ww l r v ∧ ww l r v ≤ 9 ^ l.length := by
  intro l
  induction l with
  | nil => intro r v _; simp only [ww]; split <;> simp
  | cons n t ih =>
    intro r v hr
    have h := wwS_bd (n := n) (B := 9 ^ t.length) (fun r v hr => ih r v hr) r v hr
    have hp : (0 : Int) ≤ 9 ^ t.length := by have := ih 0 0 (by omega); omega
    have h2 : ((r : Int) + 1) * 9 ^ t.length ≤ 9 * 9 ^ t.length := Int.mul_le_mul_of_nonneg_right (by omega) hp
    have e : (9 : Int) ^ (n :: t).length = 9 * 9 ^ t.length := by rw [List.length_cons, Int.pow_succ, Int.mul_comm]
    simp only [ww]
    rw [e]
    omega
theorem ww_bd6 {l : List Int} (hl : l.length ≤ 6) {r : Nat} (hr : r ≤ 8) (v : Int) : 0 ≤ ww l r v ∧ ww l r v ≤ 531441 := by
  have h := ww_bd l r v hr
  have hp : (9 : Int) ^ l.length ≤ 9 ^ 6 := by
    have : (9 : Nat) ^ l.length ≤ 9 ^ 6 := Nat.pow_le_pow_right (by omega) hl
    exact_mod_cast this
  have e : (9 : Int) ^ 6 = 531441 := by decide
  omega
theorem ww_neg : ∀ (l : List Int) (r : Nat) (v : Int), v < 0 → ww l r v = 0 := by
  intro l r v h
  cases l with
  | nil => simp only [ww]; rw [if_neg (by omega)]
  | cons n t => cases r <;> simp only [ww, wwS] <;> rw [if_pos h]
/-- The model's loop: k terms are done. -/
theorem wwS_step (F : Nat → Int → Int) (n : Int) (r : Nat) (v : Int) (h : ¬ v < 0) : wwS F n (r + 1) v = F (r + 1) v + wwS F n r (v - n) := by simp [wwS, h]
theorem wwS_last (F : Nat → Int → Int) (n : Int) (v : Int) (h : ¬ v < 0) : wwS F n 0 v = F 0 v := by simp [wwS, h]
theorem wwS_neg (F : Nat → Int → Int) (n : Int) (r : Nat) (v : Int) (h : v < 0) : wwS F n r v = 0 := by cases r <;> simp [wwS, h]

/-- The first way: of each kind as few as can be. -/
def fsK (F : Nat → Int → Int) (n : Int) : Nat → Nat → Int → Nat
  | 0, k, _ => k
  | f + 1, k, v => if 0 < F f v then k else fsK F n f (k + 1) (v - n)
/-- Values of just so many stamps, as a decision. -/
noncomputable def mkB (st : List Int) (k : Nat) (v : Int) : Bool := @decide (Mk st k v) (Classical.propDecidable _)
theorem mkB_iff {st : List Int} {k : Nat} {v : Int} : mkB st k v = true ↔ Mk st k v := by simp [mkB]
end Go.Proofs.Ytmllokooceghiaa
