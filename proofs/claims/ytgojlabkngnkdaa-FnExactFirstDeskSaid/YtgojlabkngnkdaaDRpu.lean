/-
  Rulers, plainly: what a ruler is, how many pairs of marks measure each length. No condition; no program is spoken of here.
-/
import Derived.Test.YtgojlabkngnkdaaDCpure
namespace Go.Proofs.Ytgojlabkngnkdaa

/-- A ruler: at least 2 marks, increasing, 0..60, the first one 0. -/
structure Rul (ms : List Int) : Prop where
  two : 2 ≤ ms.length
  ris : RisTo ms 0 60 ms.length
  zero : ms.getD 0 0 = 0
noncomputable def rulB (ms : List Int) : Bool := @decide (Rul ms) (Classical.propDecidable _)
theorem rulB_yes {ms : List Int} (h : Rul ms) : rulB ms = true := by simp [rulB, h]
theorem rulB_no {ms : List Int} (h : ¬ Rul ms) : rulB ms = false := by simp [rulB, h]
theorem rulB_ris {ms : List Int} (h1 : 2 ≤ ms.length) : rulB ms = (risB ms 0 60 && (ms.getD 0 0 == 0)) := by
  by_cases h : Rul ms
  · rw [rulB_yes h, risB_yes h.ris, h.zero]; rfl
  · rw [rulB_no h]
    by_cases g : RisTo ms 0 60 ms.length
    · rw [risB_yes g]
      have : ¬ ms.getD 0 0 = 0 := fun e => h ⟨h1, g, e⟩
      simpa using this
    · rw [risB_no g]; rfl
def lastM (ms : List Int) : Int := ms.getD (ms.length - 1) 0
theorem Rul.lt {ms : List Int} (h : Rul ms) : ∀ (d i : Nat), i + d + 1 < ms.length → ms.getD i 0 + d < ms.getD (i + d + 1) 0 := by
  intro d
  induction d with
  | zero => intro i hi; have := h.ris.2 i hi; simpa using this
  | succ d ih =>
    intro i hi
    have h1 := ih i (by omega)
    have h2 := h.ris.2 (i + d + 1) (by omega)
    have e : i + (d + 1) + 1 = i + d + 1 + 1 := by omega
    rw [e]; omega
theorem Rul.bd {ms : List Int} (h : Rul ms) : ∀ j, j < ms.length → (j : Int) ≤ ms.getD j 0 ∧ ms.getD j 0 ≤ lastM ms ∧ ms.getD j 0 ≤ 60 := by
  intro j hj
  have h3 := h.ris.1 j hj
  refine ⟨?_, ?_, h3.2⟩
  · by_cases e : j = 0
    · subst e; rw [h.zero]; simp
    · have := h.lt (j - 1) 0 (by omega)
      rw [h.zero, show 0 + (j - 1) + 1 = j by omega] at this
      omega
  · unfold lastM
    by_cases e : j = ms.length - 1
    · subst e; exact Int.le_refl _
    · have := h.lt (ms.length - 2 - j) j (by omega)
      rw [show j + (ms.length - 2 - j) + 1 = ms.length - 1 by omega] at this
      omega
/-- Of two marks the one that is told later is greater. -/
theorem Rul.diff {ms : List Int} (h : Rul ms) {i j : Nat} (hij : i < j) (hj : j < ms.length) : 1 ≤ ms.getD j 0 - ms.getD i 0 ∧ ms.getD j 0 - ms.getD i 0 ≤ lastM ms := by
  have h1 := h.lt (j - i - 1) i (by omega)
  rw [show i + (j - i - 1) + 1 = j by omega] at h1
  have h2 := h.bd i (by omega)
  have h3 := h.bd j hj
  omega

/-- Pairs of a mark with marks of a list. -/
def tmA (a : Int) : List Int → Int → Int
  | [], _ => 0
  | b :: t, n => (if b - a = n then 1 else 0) + tmA a t n
/-- Pairs whose first mark is one of the first i. -/
def tmF (ms : List Int) : Nat → Int → Int
  | 0, _ => 0
  | i + 1, n => tmF ms i n + tmA (ms.getD i 0) (ms.drop (i + 1)) n
/-- How many pairs measure n. -/
def tm (ms : List Int) (n : Int) : Int := tmF ms ms.length n
/-- No length below k is measured twice. -/
def SpTo (ms : List Int) (k : Nat) : Prop := ∀ j : Nat, j < k → tm ms j ≤ 1
theorem SpTo.succ {ms : List Int} {k : Nat} (h : SpTo ms k) (hk : tm ms k ≤ 1) : SpTo ms (k + 1) := fun j hj => by
  by_cases e : j = k
  · subst e; exact hk
  · exact h j (by omega)
end Go.Proofs.Ytgojlabkngnkdaa
