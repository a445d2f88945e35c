/-
  Rulers, plainly: what a ruler is, how many pairs of marks measure each length. No condition; no program is spoken of here.
-/
import Derived.Test.YthienikceehcoaaCpure
namespace Go.Proofs.Ythienikceehcoaa

/-- A ruler: at least 2 marks, increasing, 0..60, the first one 0. -/
structure Rul (ms : List Int) : Prop where
  two : 2 ≤ ms.length
  ris : RisTo ms 0 60 ms.length
  zero : ms.getD 0 0 = 0
noncomputable def rulB (ms : List Int) : Bool := @decide (Rul ms) (Classical.propDecidable _)
theorem rulB_yes {ms : List Int} (h : Rul ms) : rulB ms = true := by simp [rulB, h]
theorem rulB_no {ms : List Int} (h : ¬ Rul ms) : rulB ms = false := by simp [rulB, h]
theorem rulB_iff {ms : List Int} : rulB ms = true ↔ Rul ms := by simp [rulB]
theorem rulB_ris {ms : List Int} (h1 : 2 ≤ ms.length) : rulB ms = (risB ms 0 60 && (ms.getD 0 0 == 0)) := by
  by_cases h : Rul ms
  · rw [rulB_yes h, risB_yes h.ris, h.zero]; rfl
  · rw [rulB_no h]
    by_cases g : RisTo ms 0 60 ms.length
    · rw [risB_yes g]
      have : ¬ ms.getD 0 0 = 0 := fun e => h ⟨h1, g, e⟩
      simpa using this
    · rw [risB_no g]; rfl
def lastM (ms : List Int) : Int := ms.getD (ms.length - 1) 0
theorem Rul.lt {ms : List Int} (h : Rul ms) : ∀ (d i : Nat), i + d + 1 < ms.length → ms.getD i 0 + d < ms.getD (i + d + 1) 0 := by
  intro d
  induction d with
  | zero => intro i hi; have := h.ris.2 i hi; simpa using this
  | succ d ih =>
    intro i hi
    have h1 := ih i (by omega)
    have h2 := h.ris.2 (i + d + 1) (by omega)
    have e : i + (d + 1) + 1 = i + d + 1 + 1 := by omega
    rw [e]; omega
theorem Rul.bd {ms : List Int} (h : Rul ms) : ∀ j, j < ms.length → (j : Int) ≤ ms.getD j 0 ∧ ms.getD j 0 ≤ lastM ms ∧ ms.getD j 0 ≤ 60 := by
  intro j hj
  have h3 := h.ris.1 j hj
  refine ⟨?_, ?_, h3.2⟩
  · by_cases e : j = 0
    · subst e; rw [h.zero]; simp
    · have := h.lt (j - 1) 0 (by omega)
      rw [h.zero, show 0 + (j - 1) + 1 = j by omega] at this
      omega
  · unfold lastM
    by_cases e : j = ms.length - 1
    · subst e; exact Int.le_refl _
    · have := h.lt (ms.length - 2 - j) j (by omega)
      rw [show j + (ms.length - 2 - j) + 1 = ms.length - 1 by omega] at this
      omega
theorem Rul.last_bd {ms : List Int} (h : Rul ms) : 1 ≤ lastM ms ∧ lastM ms ≤ 60 ∧ ms.length ≤ 61 := by
  have h2 := h.two
  have h1 := h.bd (ms.length - 1) (by omega)
  unfold lastM at *
  omega
/-- Of two marks the one that is told later is greater. -/
theorem Rul.diff {ms : List Int} (h : Rul ms) {i j : Nat} (hij : i < j) (hj : j < ms.length) : 1 ≤ ms.getD j 0 - ms.getD i 0 ∧ ms.getD j 0 - ms.getD i 0 ≤ lastM ms := by
  have h1 := h.lt (j - i - 1) i (by omega)
  rw [show i + (j - i - 1) + 1 = j by omega] at h1
  have h2 := h.bd i (by omega)
  have h3 := h.bd j hj
  omega

/-- Pairs of a mark with marks of a list. -/
def tmA (a : Int) : List Int → Int → Int
  | [], _ => 0
  | b :: t, n => (if b - a = n then 1 else 0) + tmA a t n
theorem tmA_snoc (a : Int) : ∀ (l : List Int) (b n : Int), tmA a (l ++ [b]) n = if b - a = n then tmA a l n + 1 else tmA a l n := by
  intro l
  induction l with
  | nil => intro b n; simp [tmA]
  | cons c t ih => intro b n; rw [List.cons_append, tmA, ih, tmA]; split <;> omega
theorem tmA_bd (a : Int) : ∀ (l : List Int) (n : Int), 0 ≤ tmA a l n ∧ tmA a l n ≤ l.length := by
  intro l
  induction l with
  | nil => intro n; simp [tmA]
  | cons c t ih => intro n; have := ih n; simp only [tmA, List.length_cons]; split <;> omega
/-- Pairs whose first mark is one of the first i. -/
def tmF (ms : List Int) : Nat → Int → Int
  | 0, _ => 0
  | i + 1, n => tmF ms i n + tmA (ms.getD i 0) (ms.drop (i + 1)) n
def tmI (ms : List Int) (i k : Nat) (n : Int) : Int := tmF ms i n + tmA (ms.getD i 0) ((ms.drop (i + 1)).take k) n
theorem tmI_zero (ms : List Int) (i : Nat) (n : Int) : tmI ms i 0 n = tmF ms i n := by simp [tmI, tmA]
theorem tmI_all (ms : List Int) (i : Nat) (n : Int) : tmI ms i (ms.length - (i + 1)) n = tmF ms (i + 1) n := by
  unfold tmI
  rw [List.take_of_length_le (by simp), tmF]
theorem tmI_next (ms : List Int) {i k : Nat} (h : i + 1 + k < ms.length) (n : Int) : tmI ms i (k + 1) n = if ms.getD (i + 1 + k) 0 - ms.getD i 0 = n then tmI ms i k n + 1 else tmI ms i k n := by
  have e : (ms.drop (i + 1)).take (k + 1) = (ms.drop (i + 1)).take k ++ [ms.getD (i + 1 + k) 0] := by
    rw [List.take_add_one, List.getElem?_drop, List.getElem?_eq_getElem h, List.getD_eq_getElem?_getD, List.getElem?_eq_getElem h]; rfl
  unfold tmI
  rw [e, tmA_snoc]
  split <;> omega
theorem tmF_bd (ms : List Int) : ∀ (i : Nat) (n : Int), 0 ≤ tmF ms i n ∧ tmF ms i n ≤ i * ms.length := by
  intro i
  induction i with
  | zero => intro n; simp [tmF]
  | succ i ih =>
    intro n
    have h1 := ih n
    have h2 := tmA_bd (ms.getD i 0) (ms.drop (i + 1)) n
    have h3 : ((ms.drop (i + 1)).length : Int) ≤ ms.length := by simp
    have e : ((i + 1 : Nat) : Int) * ms.length = i * ms.length + ms.length := by rw [Int.natCast_succ, Int.add_mul, Int.one_mul]
    simp only [tmF]
    rw [e]; omega
theorem tmI_bd (ms : List Int) (i k : Nat) (n : Int) (h : ms.length ≤ 61) (hi : i ≤ 61) : 0 ≤ tmI ms i k n ∧ tmI ms i k n ≤ 4000 := by
  have h1 := tmF_bd ms i n
  have h2 := tmA_bd (ms.getD i 0) ((ms.drop (i + 1)).take k) n
  have h3 : (((ms.drop (i + 1)).take k).length : Int) ≤ ms.length := by simp; omega
  have h4 : (i : Int) * ms.length ≤ 61 * 61 := Int.mul_le_mul (by omega) (by omega) (by omega) (by omega)
  unfold tmI
  omega
/-- How many pairs measure n. -/
def tm (ms : List Int) (n : Int) : Int := tmF ms ms.length n
theorem tm_bd {ms : List Int} (h : ms.length ≤ 61) (n : Int) : 0 ≤ tm ms n ∧ tm ms n ≤ 4000 := by
  have h1 := tmF_bd ms ms.length n
  have h4 : (ms.length : Int) * ms.length ≤ 61 * 61 := Int.mul_le_mul (by omega) (by omega) (by omega) (by omega)
  unfold tm
  omega
def tmT (ms : List Int) (m : Nat) : List Int := (List.range m).map fun (j : Nat) => tm ms j
theorem tmT_len (ms : List Int) (m : Nat) : (tmT ms m).length = m := by simp [tmT]
theorem tmT_at (ms : List Int) (m j : Nat) (h : j < m) : (tmT ms m).getD j 0 = tm ms j := by simp [tmT, List.getD, h]

/-- The lengths below k that are measured, or are not. -/
def wiK (ms : List Int) (b : Bool) (k : Nat) : List Int := ((List.range k).filter fun (j : Nat) => decide (0 < j) && (decide (0 < tm ms j) == b)).map fun (j : Nat) => (j : Int)
theorem wiK_yes {ms : List Int} {b : Bool} {k : Nat} (h0 : 0 < k) (h : decide (0 < tm ms k) = b) : wiK ms b (k + 1) = wiK ms b k ++ [(k : Int)] := by
  unfold wiK; rw [List.range_succ, List.filter_append]; simp [h, h0]
theorem wiK_no {ms : List Int} {b : Bool} {k : Nat} (h : k = 0 ∨ decide (0 < tm ms k) = !b) : wiK ms b (k + 1) = wiK ms b k := by
  unfold wiK; rw [List.range_succ, List.filter_append]
  rcases h with rfl | h
  · simp
  · have e : (decide (0 < tm ms k) == b) = false := by rw [h]; cases b <;> rfl
    simp only [List.filter_cons, e, Bool.and_false, List.filter_nil]; simp
theorem wiK_len (ms : List Int) (b : Bool) (k : Nat) : (wiK ms b k).length ≤ k := by
  unfold wiK; rw [List.length_map]; exact Nat.le_trans (List.length_filter_le _ _) (by simp)
/-- No length below k is measured twice. -/
def SpTo (ms : List Int) (k : Nat) : Prop := ∀ j : Nat, j < k → tm ms j ≤ 1
noncomputable def spB (ms : List Int) : Bool := @decide (SpTo ms ((lastM ms).toNat + 1)) (Classical.propDecidable _)
theorem SpTo.succ {ms : List Int} {k : Nat} (h : SpTo ms k) (hk : tm ms k ≤ 1) : SpTo ms (k + 1) := fun j hj => by
  by_cases e : j = k
  · subst e; exact hk
  · exact h j (by omega)
end Go.Proofs.Ythienikceehcoaa
