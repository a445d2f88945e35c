/-
  The search for complete and sparse rulers, plainly: what it finds, how many, and that it finds something. No condition; no program is spoken of here.
-/
import Derived.Test.YtaihgdecoaajoaaRnd
namespace Go.Proofs.Ytaihgdecoaajoaa

abbrev RsR := List Int × Int
/-- A list of marks that a ruler may begin with. -/
structure Beg (ms : List Int) (len : Nat) : Prop where
  one : 1 ≤ ms.length
  zero : ms.getD 0 0 = 0
  ris : RisTo ms 0 60 ms.length
  lt : lastM ms < len
  le : len ≤ 20
theorem lastM_push (ms : List Int) (n : Int) : lastM (ms ++ [n]) = n := by simp [lastM]
theorem Beg.last0 {ms : List Int} {len : Nat} (h : Beg ms len) : 0 ≤ lastM ms := (h.ris.1 _ (by have := h.one; omega)).1
theorem ris_push {ms : List Int} {n : Int} (h : RisTo ms 0 60 ms.length) (_h1 : 1 ≤ ms.length) (hl : lastM ms < n) (h0 : 0 ≤ n) (hn : n ≤ 60) : RisTo (ms ++ [n]) 0 60 (ms ++ [n]).length := by
  have ge : ∀ j, j < ms.length → (ms ++ [n]).getD j 0 = ms.getD j 0 := fun j hj => by
    rw [List.getD_eq_getElem?_getD, List.getD_eq_getElem?_getD, List.getElem?_append_left hj]
  have gl : (ms ++ [n]).getD ms.length 0 = n := by simp
  rw [List.length_append, List.length_singleton]
  refine ⟨fun j hj => ?_, fun j hj => ?_⟩
  · by_cases e : j < ms.length
    · rw [ge j e]; exact h.1 j e
    · obtain rfl : j = ms.length := by omega
      rw [gl]; omega
  · by_cases e : j + 1 < ms.length
    · rw [ge j (by omega), ge (j + 1) e]; exact h.2 j e
    · have e2 : j + 1 = ms.length := by omega
      rw [ge j (by omega), e2, gl]
      unfold lastM at hl
      rwa [show ms.length - 1 = j by omega] at hl
theorem Beg.rul {ms : List Int} {len : Nat} (h : Beg ms len) {n : Int} (h1 : lastM ms < n) (h2 : n ≤ 60) : Rul (ms ++ [n]) := by
  have h0 := h.last0
  have ho := h.one
  refine ⟨by simp; omega, ris_push h.ris h.one h1 (by omega) h2, ?_⟩
  rw [List.getD_eq_getElem?_getD, List.getElem?_append_left (by omega), ← List.getD_eq_getElem?_getD]
  exact h.zero
theorem Beg.push {ms : List Int} {len : Nat} (h : Beg ms len) {n : Int} (h1 : lastM ms < n) (h2 : n < len) : Beg (ms ++ [n]) len := by
  have hle := h.le
  have R := h.rul h1 (by omega)
  exact ⟨by have := R.two; omega, R.zero, R.ris, by rw [lastM_push]; exact h2, hle⟩
theorem Beg.short {ms : List Int} {len : Nat} (h : Beg ms len) : ms.length ≤ 20 := by
  have hz := h.zero
  have hl := h.lt
  have hle := h.le
  have ho := h.one
  have key : ∀ d i : Nat, i + d < ms.length → ms.getD i 0 + d ≤ ms.getD (i + d) 0 := by
    intro d
    induction d with
    | zero => intro i _; simp
    | succ d ih => intro i hi; have h1 := ih i (by omega); have h2 := h.ris.2 (i + d) (by omega); rw [show i + (d + 1) = i + d + 1 by omega]; omega
  have := key (ms.length - 1) 0 (by omega)
  rw [hz, Nat.zero_add] at this
  unfold lastM at hl
  omega

/-- Whether a ruler is what is looked for. -/
noncomputable def okR (c : Bool) (ms : List Int) : Bool := if c = true then decide ((wiK ms false ((lastM ms).toNat + 1)).length = 0) else spB ms
def rsS (a f : RsR) : RsR := (if a.2 = 0 then f.1 else a.1, a.2 + f.2)
noncomputable def rsG (F : List Int → RsR) (c : Bool) (ms : List Int) : Nat → Nat → RsR → RsR
  | 0, _, a => a
  | f + 1, n, a => rsG F c ms f (n + 1) (if c = false ∧ spB (ms ++ [(n : Int)]) = false then a else rsS a (F (ms ++ [(n : Int)])))
noncomputable def rs (c : Bool) (len : Nat) : Nat → List Int → RsR
  | 0, ms => if okR c (ms ++ [(len : Int)]) = true then (ms ++ [(len : Int)], 1) else ([], 0)
  | d + 1, ms => rsG (rs c len d) c ms (len - d - ((lastM ms).toNat + 1)) ((lastM ms).toNat + 1) ([], 0)

theorem pw2 (k : Nat) : (1 : Int) ≤ 2 ^ k := by
  have h : 1 ≤ 2 ^ k := Nat.pow_pos (by decide)
  exact_mod_cast h
theorem pw2_le {k n : Nat} (h : k ≤ n) : (2 : Int) ^ k ≤ 2 ^ n := by
  have h : 2 ^ k ≤ 2 ^ n := Nat.pow_le_pow_right (by decide) h
  exact_mod_cast h
theorem rsG_bd {F : List Int → RsR} {c : Bool} {ms : List Int} {len : Nat} : ∀ (f n : Nat) (a : RsR), n + f ≤ len → (∀ k, n ≤ k → k < len → 0 ≤ (F (ms ++ [(k : Int)])).2 ∧ (F (ms ++ [(k : Int)])).2 ≤ 2 ^ (len - k - 1)) →
    a.2 ≤ (rsG F c ms f n a).2 ∧ (rsG F c ms f n a).2 ≤ a.2 + 2 ^ (len - n) := by
  intro f
  induction f with
  | zero => intro n a _ _; have := pw2 (len - n); simp only [rsG]; omega
  | succ f ih =>
    intro n a hn hF
    have h1 := hF n (Nat.le_refl _) (by omega)
    have h2 : ∀ b, _ := fun b => ih (n + 1) b (by omega) (fun k hk hl => hF k (by omega) hl)
    have e : (2 : Int) ^ (len - n) = 2 * 2 ^ (len - n - 1) := by
      obtain ⟨q, hq⟩ : ∃ q, len - n = q + 1 := ⟨len - n - 1, by omega⟩
      rw [hq, Int.pow_succ, Int.mul_comm]; rfl
    have e2 : len - (n + 1) = len - n - 1 := by omega
    rw [e2] at h2
    have hp := pw2 (len - n - 1)
    rw [rsG]
    split
    · have := h2 a; omega
    · have := h2 (rsS a (F (ms ++ [(n : Int)])))
      simp only [rsS] at this ⊢
      omega
theorem rs_bd {c : Bool} {len : Nat} : ∀ (d : Nat) (ms : List Int), Beg ms len → 0 ≤ (rs c len d ms).2 ∧ (rs c len d ms).2 ≤ 2 ^ (len - (lastM ms).toNat - 1) := by
  intro d
  induction d with
  | zero =>
    intro ms _
    have := pw2 (len - (lastM ms).toNat - 1)
    rw [rs]
    split <;> simp only <;> omega
  | succ d ih =>
    intro ms h
    have h0 := h.last0
    have hl := h.lt
    have e : len - (lastM ms).toNat - 1 = len - ((lastM ms).toNat + 1) := by omega
    have hG := rsG_bd (F := rs c len d) (c := c) (ms := ms) (len := len) (len - d - ((lastM ms).toNat + 1)) ((lastM ms).toNat + 1) ([], 0) (by omega) (fun k hk hkl => by
      have := ih (ms ++ [(k : Int)]) (h.push (by omega) (by omega))
      rw [lastM_push] at this
      simpa using this)
    rw [rs, e]
    simp only at hG
    omega
theorem rs_small {c : Bool} {len d : Nat} {ms : List Int} (h : Beg ms len) : 0 ≤ (rs c len d ms).2 ∧ (rs c len d ms).2 ≤ 1048576 := by
  have h1 := rs_bd (c := c) d ms h
  have h2 : (2 : Int) ^ (len - (lastM ms).toNat - 1) ≤ 2 ^ 20 := pw2_le (by have := h.le; omega)
  have h3 : (2 : Int) ^ 20 = 1048576 := by decide
  omega
/-- What is found has as many marks as told. -/
def Inv (B : Nat) (a : RsR) : Prop := 0 ≤ a.2 ∧ (0 < a.2 → a.1.length = B)
theorem rsS_inv {B : Nat} {a f : RsR} (h : Inv B a) (g : Inv B f) : Inv B (rsS a f) := by
  obtain ⟨h1, h2⟩ := h
  obtain ⟨g1, g2⟩ := g
  refine ⟨by simp only [rsS]; omega, fun hp => ?_⟩
  simp only [rsS] at hp ⊢
  by_cases e : a.2 = 0
  · rw [if_pos e]; exact g2 (by omega)
  · rw [if_neg e]; exact h2 (by omega)
theorem rsG_inv {F : List Int → RsR} {c : Bool} {ms : List Int} {B : Nat} : ∀ (f n : Nat) (a : RsR), Inv B a → (∀ k, n ≤ k → k < n + f → Inv B (F (ms ++ [(k : Int)]))) → Inv B (rsG F c ms f n a) := by
  intro f
  induction f with
  | zero => intro n a h _; exact h
  | succ f ih =>
    intro n a h hF
    rw [rsG]
    refine ih (n + 1) _ ?_ fun k h1 h2 => hF k (by omega) (by omega)
    split
    · exact h
    · exact rsS_inv h (hF n (Nat.le_refl _) (by omega))
theorem rs_inv {c : Bool} {len : Nat} : ∀ (d : Nat) (ms : List Int), Inv (ms.length + d + 1) (rs c len d ms) := by
  intro d
  induction d with
  | zero =>
    intro ms
    rw [rs]
    split
    · exact ⟨by simp, fun _ => by simp⟩
    · exact ⟨by simp, fun h => by simp at h⟩
  | succ d ih =>
    intro ms
    rw [rs]
    refine rsG_inv _ _ _ ⟨by simp, fun h => by simp at h⟩ fun k _ _ => ?_
    have := ih (ms ++ [(k : Int)])
    rwa [List.length_append, List.length_singleton, show ms.length + 1 + d + 1 = ms.length + (d + 1) + 1 by omega] at this
/-- Something is found if one of the next places leads to something. -/
theorem rsG_mono {F : List Int → RsR} {c : Bool} {ms : List Int} : ∀ (f n : Nat) (a : RsR), (∀ k : Nat, 0 ≤ (F (ms ++ [(k : Int)])).2) → a.2 ≤ (rsG F c ms f n a).2 := by
  intro f
  induction f with
  | zero => intro n a _; exact Int.le_refl _
  | succ f ih =>
    intro n a hF
    rw [rsG]
    refine Int.le_trans ?_ (ih (n + 1) _ hF)
    split
    · exact Int.le_refl _
    · have := hF n
      simp only [rsS]; omega
theorem rsG_pos {F : List Int → RsR} {c : Bool} {ms : List Int} : ∀ (f n : Nat) (a : RsR) (k : Nat), 0 ≤ a.2 → (∀ k : Nat, 0 ≤ (F (ms ++ [(k : Int)])).2) → n ≤ k → k < n + f → (c = true ∨ spB (ms ++ [(k : Int)]) = true) → 0 < (F (ms ++ [(k : Int)])).2 → 0 < (rsG F c ms f n a).2 := by
  intro f
  induction f with
  | zero => intro n a k _ _ h1 h2; omega
  | succ f ih =>
    intro n a k ha hF h1 h2 hc hp
    rw [rsG]
    by_cases e : n = k
    · subst e
      have hcond : ¬ (c = false ∧ spB (ms ++ [(n : Int)]) = false) := fun g => by
        rcases hc with h | h
        · rw [h] at g; cases g.1
        · rw [h] at g; cases g.2
      rw [if_neg hcond]
      refine Int.lt_of_lt_of_le ?_ (rsG_mono f (n + 1) _ hF)
      simp only [rsS]; omega
    · refine ih (n + 1) _ k ?_ hF (by omega) (by omega) hc hp
      split
      · exact ha
      · have := hF n
        simp only [rsS]; omega
theorem rs_step {c : Bool} {len d : Nat} {ms : List Int} {k : Nat} (h1 : (lastM ms).toNat < k) (h2 : k + d < len) (hc : c = true ∨ spB (ms ++ [(k : Int)]) = true) (hp : 0 < (rs c len d (ms ++ [(k : Int)])).2) : 0 < (rs c len (d + 1) ms).2 := by
  rw [rs]
  exact rsG_pos _ _ _ k (by simp) (fun k => (rs_inv d _).1) (by omega) (by omega) hc hp
theorem rs_last {c : Bool} {len : Nat} {ms : List Int} (h : okR c (ms ++ [(len : Int)]) = true) : 0 < (rs c len 0 ms).2 := by
  rw [rs, if_pos h]
  exact (by decide : (0 : Int) < 1)

/-- All marks measure all lengths. -/
theorem tmA_mem {a : Int} : ∀ (l : List Int) (n : Int), a + n ∈ l → 0 < tmA a l n := by
  intro l
  induction l with
  | nil => intro n h; simp at h
  | cons b t ih =>
    intro n h
    have hb := tmA_bd a t n
    rw [tmA]
    rcases List.mem_cons.1 h with e | h
    · rw [if_pos (by omega)]; omega
    · have := ih n h
      split <;> omega
theorem tmF_mono (ms : List Int) (n : Int) : ∀ d i : Nat, tmF ms i n ≤ tmF ms (i + d) n := by
  intro d
  induction d with
  | zero => intro i; exact Int.le_refl _
  | succ d ih =>
    intro i
    have h1 := ih i
    have h2 := tmA_bd (ms.getD (i + d) 0) (ms.drop (i + d + 1)) n
    rw [show i + (d + 1) = i + d + 1 by omega, tmF]
    omega
theorem tm_first {ms : List Int} {n : Int} (h1 : 1 ≤ ms.length) (h0 : ms.getD 0 0 = 0) (hn : n ∈ ms.drop 1) : 0 < tm ms n := by
  have h2 := tmF_mono ms n (ms.length - 1) 1
  rw [show 1 + (ms.length - 1) = ms.length by omega] at h2
  have h3 : 0 < tmF ms 1 n := by
    rw [tmF, tmF, h0]
    have := tmA_mem (a := 0) (ms.drop 1) n (by simpa using hn)
    simpa using this
  unfold tm
  omega
theorem wi_none {ms : List Int} {k : Nat} (h : ∀ j : Nat, 0 < j → j < k → 0 < tm ms j) : wiK ms false k = [] := by
  unfold wiK
  rw [List.map_eq_nil_iff, List.filter_eq_nil_iff]
  intro j hj
  rw [List.mem_range] at hj
  by_cases h0 : 0 < j
  · have := h j h0 hj
    simp [this]
  · simp [h0]
def seqL (k : Nat) : List Int := (List.range (k + 1)).map fun (j : Nat) => (j : Int)
theorem seqL_push (k : Nat) : seqL k ++ [((k + 1 : Nat) : Int)] = seqL (k + 1) := by
  unfold seqL
  rw [List.range_succ (n := k + 1), List.map_append]
  rfl
theorem seqL_last (k : Nat) : lastM (seqL k) = k := by
  cases k with
  | zero => rfl
  | succ k => rw [← seqL_push, lastM_push]
theorem seqL_ok (k : Nat) : okR true (seqL k) = true := by
  have hl : (seqL k).length = k + 1 := by simp [seqL]
  unfold okR
  rw [if_pos rfl, seqL_last, Int.toNat_natCast, wi_none]
  · rfl
  · intro j hj hjk
    refine tm_first (by omega) ?_ ?_
    · unfold seqL; simp [List.getD]
    · rw [List.mem_drop_iff_getElem]
      exact ⟨j - 1, by omega, by simp [seqL]; omega⟩
theorem seq_pos (len : Nat) : ∀ (d k : Nat), k + d + 1 = len → 0 < (rs true len d (seqL k)).2 := by
  intro d
  induction d with
  | zero =>
    intro k hk
    refine rs_last ?_
    rw [← hk, Nat.add_zero, seqL_push]
    exact seqL_ok _
  | succ d ih =>
    intro k hk
    refine rs_step (k := k + 1) ?_ (by omega) (.inl rfl) ?_
    · rw [seqL_last]; simp
    · rw [seqL_push]
      exact ih (k + 1) (by omega)
/-- Some short sparse rulers. -/
theorem spB_of {ms : List Int} {k : Nat} (h : (lastM ms).toNat + 1 = k) (g : ∀ j : Nat, j < k → tm ms j ≤ 1) : spB ms = true := spB_yes (by rw [h]; exact g)
def golL : Nat → Nat
  | 2 => 1
  | 3 => 3
  | 4 => 6
  | 5 => 11
  | _ => 17
theorem gol_pos {m : Nat} (h2 : 2 ≤ m) (h6 : m ≤ 6) : 0 < (rs false (golL m) (m - 2) [0]).2 := by
  have h : m = 2 ∨ m = 3 ∨ m = 4 ∨ m = 5 ∨ m = 6 := by omega
  rcases h with rfl | rfl | rfl | rfl | rfl
  · exact rs_last (spB_of (k := 2) (by decide) (by decide))
  · refine rs_step (k := 1) (by decide) (by decide) (.inr (spB_of (k := 2) (by decide) (by decide))) ?_
    exact rs_last (spB_of (k := 4) (by decide) (by decide))
  · refine rs_step (k := 1) (by decide) (by decide) (.inr (spB_of (k := 2) (by decide) (by decide))) ?_
    refine rs_step (k := 4) (by decide) (by decide) (.inr (spB_of (k := 5) (by decide) (by decide))) ?_
    exact rs_last (spB_of (k := 7) (by decide) (by decide))
  · refine rs_step (k := 1) (by decide) (by decide) (.inr (spB_of (k := 2) (by decide) (by decide))) ?_
    refine rs_step (k := 4) (by decide) (by decide) (.inr (spB_of (k := 5) (by decide) (by decide))) ?_
    refine rs_step (k := 9) (by decide) (by decide) (.inr (spB_of (k := 10) (by decide) (by decide))) ?_
    exact rs_last (spB_of (k := 12) (by decide) (by decide))
  · refine rs_step (k := 1) (by decide) (by decide) (.inr (spB_of (k := 2) (by decide) (by decide))) ?_
    refine rs_step (k := 4) (by decide) (by decide) (.inr (spB_of (k := 5) (by decide) (by decide))) ?_
    refine rs_step (k := 10) (by decide) (by decide) (.inr (spB_of (k := 11) (by decide) (by decide))) ?_
    refine rs_step (k := 12) (by decide) (by decide) (.inr (spB_of (k := 13) (by decide) (by decide))) ?_
    exact rs_last (spB_of (k := 18) (by decide) (by decide))

/-- How many marks between the ends the first complete ruler has. -/
noncomputable def rcM (len : Nat) : Nat → Nat → Nat
  | 0, m => m
  | f + 1, m => if (m + 2) * (m + 1) / 2 < len then rcM len f (m + 1) else if 0 < (rs true len m [0]).2 then m else rcM len f (m + 1)
noncomputable def rcD (len : Nat) : Nat := rcM len (len - 1) 0
/-- The length of the shortest sparse ruler. -/
noncomputable def rhM (m : Nat) : Nat → Nat → Nat
  | 0, l => l
  | f + 1, l => if 0 < (rs false l (m - 2) [0]).2 then l else rhM m f (l + 1)
noncomputable def rhL (m : Nat) : Nat := rhM m (golL m - m * (m - 1) / 2) (m * (m - 1) / 2)
end Go.Proofs.Ytaihgdecoaajoaa
