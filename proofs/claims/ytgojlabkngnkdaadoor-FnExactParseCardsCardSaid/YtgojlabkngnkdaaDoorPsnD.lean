/-
  Numerals read and written, and what a text of pieces reads as: the two ways to tell it agree. No program in this text.
-/
import Derived.Test.YtgojlabkngnkdaaDoorPspD
namespace Go.Proofs.YtgojlabkngnkdaaDoor
open Go.RowKit

theorem decFrom_app (p : List UInt8) (b : UInt8) : ∀ acc, Lib.decFrom acc (p ++ [b]) = (Lib.decFrom acc p).bind fun n => (Lib.digitVal b).map fun d => n * 10 + d := by
  induction p with
  | nil =>
    intro acc
    cases e : Lib.digitVal b <;> simp [Lib.decFrom, e]
  | cons c p ih =>
    intro acc
    rw [List.cons_append]
    cases e : Lib.digitVal c with
    | none => simp [Lib.decFrom, e]
    | some d => simp only [Lib.decFrom, e]; exact ih _
theorem digit_of {d : Nat} (h : d < 10) : Lib.digitVal (UInt8.ofNat (48 + d)) = some d := by
  rcases (by omega : d = 0 ∨ d = 1 ∨ d = 2 ∨ d = 3 ∨ d = 4 ∨ d = 5 ∨ d = 6 ∨ d = 7 ∨ d = 8 ∨ d = 9) with rfl | rfl | rfl | rfl | rfl | rfl | rfl | rfl | rfl | rfl <;> decide
theorem of_digit {b : UInt8} {d : Nat} (h : Lib.digitVal b = some d) : d < 10 ∧ UInt8.ofNat (48 + d) = b := by
  obtain ⟨h1, h2, rfl⟩ := Lib.digitVal_eq h
  refine ⟨by omega, ?_⟩
  apply UInt8.toNat_inj.1
  rw [show 48 + (b.toNat - 48) = b.toNat by omega]
  simp
/-- A numeral reads as its number. -/
theorem dec_digits (n : Nat) : Lib.decFrom 0 (Lib.decDigits n) = some n := by
  induction n using Nat.strongRecOn with
  | ind n ih =>
    by_cases h : n < 10
    · rw [Lib.decDigits_one h]; simp only [Lib.decFrom, digit_of h]; simp
    · rw [Lib.decDigits.eq_1 n, dif_neg h, decFrom_app, ih (n / 10) (by omega), digit_of (by omega)]
      simp; omega
theorem digits_ne (n : Nat) : Lib.decDigits n ≠ [] := by
  rw [Lib.decDigits.eq_1 n]; split <;> simp
/-- It has no zero in front. -/
theorem digits_head (n : Nat) (h1 : 1 ≤ n) : (Lib.decDigits n).headD 0 ≠ 48 := by
  induction n using Nat.strongRecOn with
  | ind n ih =>
    by_cases h : n < 10
    · rw [Lib.decDigits_one h]
      rcases (by omega : n = 1 ∨ n = 2 ∨ n = 3 ∨ n = 4 ∨ n = 5 ∨ n = 6 ∨ n = 7 ∨ n = 8 ∨ n = 9) with rfl | rfl | rfl | rfl | rfl | rfl | rfl | rfl | rfl <;> decide
    · rw [Lib.decDigits.eq_1 n, dif_neg h]
      have h2 := ih (n / 10) (by omega) (by omega)
      cases e : Lib.decDigits (n / 10) with
      | nil => exact absurd e (digits_ne _)
      | cons a t => rw [e] at h2; simpa using h2
theorem digits_len (k : Nat) : ∀ n, n < 10 ^ (k + 1) → (Lib.decDigits n).length ≤ k + 1 := by
  induction k with
  | zero => intro n h; rw [Lib.decDigits_one (by omega)]; simp
  | succ k ih =>
    intro n h
    by_cases h2 : n < 10
    · rw [Lib.decDigits_one h2]; simp
    · rw [Lib.decDigits.eq_1 n, dif_neg h2]
      have := ih (n / 10) (by rw [Nat.div_lt_iff_lt_mul (by omega)]; rw [Nat.pow_succ] at h; exact h)
      simp; omega
theorem digits_all (n : Nat) : ∀ b ∈ Lib.decDigits n, 48 ≤ b.toNat ∧ b.toNat ≤ 57 := by
  induction n using Nat.strongRecOn with
  | ind n ih =>
    intro b hb
    by_cases h : n < 10
    · rw [Lib.decDigits_one h] at hb
      rw [List.mem_singleton] at hb
      subst hb
      have := Lib.digitVal_eq (digit_of h)
      omega
    · rw [Lib.decDigits.eq_1 n, dif_neg h] at hb
      rcases List.mem_append.1 hb with hb | hb
      · exact ih (n / 10) (by omega) b hb
      · rw [List.mem_singleton] at hb
        subst hb
        have := Lib.digitVal_eq (digit_of (d := n % 10) (by omega))
        omega
/-- What reads as a number is its numeral, if there is no zero in front. -/
theorem digits_of_dec (l : List UInt8) : ∀ n, l ≠ [] → (l.headD 0 ≠ 48 ∨ l.length = 1) → Lib.decFrom 0 l = some n → Lib.decDigits n = l := by
  induction hk : l.length generalizing l with
  | zero => intro n h; exact absurd (List.length_eq_zero_iff.1 hk) h
  | succ k ih =>
    intro n hne hh hd
    obtain ⟨p, b, rfl⟩ : ∃ p b, l = p ++ [b] := ⟨l.dropLast, l.getLast hne, (List.dropLast_concat_getLast hne).symm⟩
    rw [decFrom_app] at hd
    have hp : p.length = k := by simpa using hk
    cases em : Lib.decFrom 0 p with
    | none => rw [em] at hd; simp at hd
    | some m =>
      rw [em] at hd
      cases ed : Lib.digitVal b with
      | none => rw [ed] at hd; simp at hd
      | some d =>
        rw [ed] at hd
        simp at hd
        obtain ⟨d1, d2⟩ := of_digit ed
        by_cases hp0 : p = []
        · subst hp0
          simp [Lib.decFrom] at em
          subst em
          rw [← hd, Lib.decDigits_one (by omega), ← d2]; simp
        · have hl : p.length ≠ 0 := fun e => hp0 (List.length_eq_zero_iff.1 e)
          have hh2 : p.headD 0 ≠ 48 := by
            rcases hh with hh | hh
            · cases p with
              | nil => exact absurd rfl hp0
              | cons a t => simpa using hh
            · simp at hh; omega
          have IH := ih p hp m hp0 (.inl hh2) em
          have hm : 1 ≤ m := by
            rcases Nat.eq_zero_or_pos m with h0 | h0
            · subst h0
              rw [Lib.decDigits_one (by omega)] at IH
              rw [← IH] at hh2
              exact absurd rfl hh2
            · exact h0
          rw [← hd, Lib.decDigits.eq_1 (m * 10 + d), dif_neg (by omega), show (m * 10 + d) / 10 = m by omega, show (m * 10 + d) % 10 = d by omega, IH, d2]

/-- What the model reads a word as. -/
def readW (l : List UInt8) : Int := if 1 ≤ l.length ∧ l.length ≤ 6 ∧ ¬ (l.headD 0 = 48 ∧ 1 < l.length) then (match Lib.decFrom 0 l with | some n => (n : Int) | none => -1) else -1
theorem read_dd {x : Int} (h0 : 1 ≤ x) (h1 : x ≤ 10000) : readW (dd x) = x := by
  have hl := digits_len 4 x.toNat (by omega)
  have hn := digits_ne x.toNat
  have hh := digits_head x.toNat (by omega)
  have hp : 1 ≤ (Lib.decDigits x.toNat).length := by
    cases e : Lib.decDigits x.toNat with
    | nil => exact absurd e hn
    | cons a t => simp
  unfold readW dd
  rw [if_pos ⟨hp, by omega, fun h => hh h.1⟩, dec_digits]
  simp; omega
/-- The program's way: each word is read by the library's Atoi; the list must have the text. V: what the first words read as. -/
def AtTo (l : List UInt8) (k : Nat) (V : List Int) : Prop := V.length = k ∧ ∀ j, j < k → ∀ w, (splitW l)[j]? = some w → Lib.atoiAll w = .ok (V.getD j 0)
theorem AtTo.zero (l : List UInt8) : AtTo l 0 [] := ⟨rfl, fun j h => by omega⟩
end Go.Proofs.YtgojlabkngnkdaaDoor
