/-
  Numerals read and written, and what a text of pieces reads as: the two ways to tell it agree. No program in this text.
-/
import Derived.Test.YtaihgdecoaajoaaDoorPspD
namespace Go.Proofs.YtaihgdecoaajoaaDoor
open Go.RowKit

theorem decFrom_app (p : List UInt8) (b : UInt8) : ∀ acc, Lib.decFrom acc (p ++ [b]) = (Lib.decFrom acc p).bind fun n => (Lib.digitVal b).map fun d => n * 10 + d := by
  induction p with
  | nil =>
    intro acc
    cases e : Lib.digitVal b <;> simp [Lib.decFrom, e]
  | cons c p ih =>
    intro acc
    rw [List.cons_append]
    cases e : Lib.digitVal c with
    | none => simp [Lib.decFrom, e]
    | some d => simp only [Lib.decFrom, e]; exact ih _
theorem digit_of {d : Nat} (h : d < 10) : Lib.digitVal (UInt8.ofNat (48 + d)) = some d := by
  rcases (by omega : d = 0 ∨ d = 1 ∨ d = 2 ∨ d = 3 ∨ d = 4 ∨ d = 5 ∨ d = 6 ∨ d = 7 ∨ d = 8 ∨ d = 9) with rfl | rfl | rfl | rfl | rfl | rfl | rfl | rfl | rfl | rfl <;> decide
theorem of_digit {b : UInt8} {d : Nat} (h : Lib.digitVal b = some d) : d < 10 ∧ UInt8.ofNat (48 + d) = b := by
  obtain ⟨h1, h2, rfl⟩ := Lib.digitVal_eq h
  refine ⟨by omega, ?_⟩
  apply UInt8.toNat_inj.1
  rw [show 48 + (b.toNat - 48) = b.toNat by omega]
  simp
/-- A numeral reads as its number. -/
theorem dec_digits (n : Nat) : Lib.decFrom 0 (Lib.decDigits n) = some n := by
  induction n using Nat.strongRecOn with
  | ind n ih =>
    by_cases h : n < 10
    · rw [Lib.decDigits_one h]; simp only [Lib.decFrom, digit_of h]; simp
    · rw [Lib.decDigits.eq_1 n, dif_neg h, decFrom_app, ih (n / 10) (by omega), digit_of (by omega)]
      simp; omega
theorem digits_ne (n : Nat) : Lib.decDigits n ≠ [] := by
  rw [Lib.decDigits.eq_1 n]; split <;> simp
/-- It has no zero in front. -/
theorem digits_head (n : Nat) (h1 : 1 ≤ n) : (Lib.decDigits n).headD 0 ≠ 48 := by
  induction n using Nat.strongRecOn with
  | ind n ih =>
    by_cases h : n < 10
    · rw [Lib.decDigits_one h]
      rcases (by omega : n = 1 ∨ n = 2 ∨ n = 3 ∨ n = 4 ∨ n = 5 ∨ n = 6 ∨ n = 7 ∨ n = 8 ∨ n = 9) with rfl | rfl | rfl | rfl | rfl | rfl | rfl | rfl | rfl <;> decide
    · rw [Lib.decDigits.eq_1 n, dif_neg h]
      have h2 := ih (n / 10) (by omega) (by omega)
      cases e : Lib.decDigits (n / 10) with
      | nil => exact absurd e (digits_ne _)
      | cons a t => rw [e] at h2; simpa using h2
theorem digits_len (k : Nat) : ∀ n, n < 10 ^ (k + 1) → (Lib.decDigits n).length ≤ k + 1 := by
  induction k with
  | zero => intro n h; rw [Lib.decDigits_one (by omega)]; simp
  | succ k ih =>
    intro n h
    by_cases h2 : n < 10
    · rw [Lib.decDigits_one h2]; simp
    · rw [Lib.decDigits.eq_1 n, dif_neg h2]
      have := ih (n / 10) (by rw [Nat.div_lt_iff_lt_mul (by omega)]; rw [Nat.pow_succ] at h; exact h)
      simp; omega
theorem digits_all (n : Nat) : ∀ b ∈ Lib.decDigits n, 48 ≤ b.toNat ∧ b.toNat ≤ 57 := by
  induction n using Nat.strongRecOn with
  | ind n ih =>
    intro b hb
    by_cases h : n < 10
    · rw [Lib.decDigits_one h] at hb
      rw [List.mem_singleton] at hb
      subst hb
      have := Lib.digitVal_eq (digit_of h)
      omega
    · rw [Lib.decDigits.eq_1 n, dif_neg h] at hb
      rcases List.mem_append.1 hb with hb | hb
      · exact ih (n / 10) (by omega) b hb
      · rw [List.mem_singleton] at hb
        subst hb
        have := Lib.digitVal_eq (digit_of (d := n % 10) (by omega))
        omega
/-- What reads as a number is its numeral, if there is no zero in front. -/
theorem digits_of_dec (l : List UInt8) : ∀ n, l ≠ [] → (l.headD 0 ≠ 48 ∨ l.length = 1) → Lib.decFrom 0 l = some n → Lib.decDigits n = l := by
  induction hk : l.length generalizing l with
  | zero => intro n h; exact absurd (List.length_eq_zero_iff.1 hk) h
  | succ k ih =>
    intro n hne hh hd
    obtain ⟨p, b, rfl⟩ : ∃ p b, l = p ++ [b] := ⟨l.dropLast, l.getLast hne, (List.dropLast_concat_getLast hne).symm⟩
    rw [decFrom_app] at hd
    have hp : p.length = k := by simpa using hk
    cases em : Lib.decFrom 0 p with
    | none => rw [em] at hd; simp at hd
    | some m =>
      rw [em] at hd
      cases ed : Lib.digitVal b with
      | none => rw [ed] at hd; simp at hd
      | some d =>
        rw [ed] at hd
        simp at hd
        obtain ⟨d1, d2⟩ := of_digit ed
        by_cases hp0 : p = []
        · subst hp0
          simp [Lib.decFrom] at em
          subst em
          rw [← hd, Lib.decDigits_one (by omega), ← d2]; simp
        · have hl : p.length ≠ 0 := fun e => hp0 (List.length_eq_zero_iff.1 e)
          have hh2 : p.headD 0 ≠ 48 := by
            rcases hh with hh | hh
            · cases p with
              | nil => exact absurd rfl hp0
              | cons a t => simpa using hh
            · simp at hh; omega
          have IH := ih p hp m hp0 (.inl hh2) em
          have hm : 1 ≤ m := by
            rcases Nat.eq_zero_or_pos m with h0 | h0
            · subst h0
              rw [Lib.decDigits_one (by omega)] at IH
              rw [← IH] at hh2
              exact absurd rfl hh2
            · exact h0
          rw [← hd, Lib.decDigits.eq_1 (m * 10 + d), dif_neg (by omega), show (m * 10 + d) / 10 = m by omega, show (m * 10 + d) % 10 = d by omega, IH, d2]

/-- What the model reads a word as. -/
def readW (l : List UInt8) : Int := if 1 ≤ l.length ∧ l.length ≤ 6 ∧ ¬ (l.headD 0 = 48 ∧ 1 < l.length) then (match Lib.decFrom 0 l with | some n => (n : Int) | none => -1) else -1
theorem read_dd {x : Int} (h0 : 1 ≤ x) (h1 : x ≤ 10000) : readW (dd x) = x := by
  have hl := digits_len 4 x.toNat (by omega)
  have hn := digits_ne x.toNat
  have hh := digits_head x.toNat (by omega)
  have hp : 1 ≤ (Lib.decDigits x.toNat).length := by
    cases e : Lib.decDigits x.toNat with
    | nil => exact absurd e hn
    | cons a t => simp
  unfold readW dd
  rw [if_pos ⟨hp, by omega, fun h => hh h.1⟩, dec_digits]
  simp; omega
theorem dd_read {w : List UInt8} {x : Int} (h0 : 1 ≤ x) (h : readW w = x) : dd x = w ∧ Lib.atoiAll w = .ok x := by
  unfold readW at h
  split at h
  · rename_i hc
    cases e : Lib.decFrom 0 w with
    | none => rw [e] at h; simp at h; omega
    | some n =>
      rw [e] at h
      simp at h
      subst h
      have hne : w ≠ [] := by
        intro e2; subst e2; simp at hc
      refine ⟨?_, ?_⟩
      · unfold dd
        rw [show ((n : Nat) : Int).toNat = n by omega]
        refine digits_of_dec w n hne ?_ e
        by_cases h48 : w.headD 0 = 48
        · right
          have h2 : ¬ 1 < w.length := fun h1 => hc.2.2 ⟨h48, h1⟩
          omega
        · exact .inl h48
      · rw [Lib.atoiAll_short w (by omega)]
        cases w with
        | nil => exact absurd rfl hne
        | cons b r =>
          have hb : 48 ≤ b.toNat := by
            cases ed : Lib.digitVal b with
            | none => simp [Lib.decFrom, ed] at e
            | some d => exact (Lib.digitVal_eq ed).1
          have n45 : (b == 45) = false := by
            rw [beq_eq_false_iff_ne]; intro e3; subst e3; exact absurd hb (by decide)
          have n43 : (b == 43) = false := by
            rw [beq_eq_false_iff_ne]; intro e3; subst e3; exact absurd hb (by decide)
          simp [Lib.atoi, n45, n43, Lib.decNat, e, Lib.NumEnd.ofOption]
  · omega

/-- What a text reads as: the model's way. -/
def outW (l : List UInt8) : List Int := (splitW l).map readW
noncomputable def parB (l : List UInt8) : Bool := @decide (l = [48] ∨ (l.length ≤ 200 ∧ Good (outW l))) (Classical.propDecidable _)
noncomputable def parR (l : List UInt8) : List Int := if l = [48] then [] else if parB l = true then outW l else []
theorem outW_len (l : List UInt8) : (outW l).length = (splitW l).length := by simp [outW]
theorem par_zero : parB [48] = true ∧ parR [48] = [] := ⟨by simp [parB], by simp [parR]⟩
theorem par_iff {l : List UInt8} (h : ¬ l = [48]) : parB l = true ↔ (l.length ≤ 200 ∧ Good (outW l)) := by simp [parB, h]
theorem par_yes {l : List UInt8} (h : ¬ l = [48]) (h1 : l.length ≤ 200) (h2 : Good (outW l)) : parB l = true ∧ parR l = outW l := by
  have := (par_iff h).2 ⟨h1, h2⟩
  exact ⟨this, by simp [parR, h, this]⟩
theorem par_no {l : List UInt8} (h : ¬ l = [48]) (h1 : ¬ (l.length ≤ 200 ∧ Good (outW l))) : parB l = false ∧ parR l = [] := by
  have : parB l = false := by
    rw [Bool.eq_false_iff]; intro e; exact h1 ((par_iff h).1 e)
  exact ⟨this, by simp [parR, h, this]⟩
theorem parR_len (l : List UInt8) : (parR l).length ≤ l.length + 1 := by
  unfold parR
  split
  · simp
  · split
    · rw [outW_len]; exact splitW_len l
    · simp
theorem out_word {l : List UInt8} (hg : Good (outW l)) {j : Nat} {w : List UInt8} (hj : (splitW l)[j]? = some w) : 1 ≤ readW w ∧ readW w ≤ 10000 := by
  have hlt : j < (splitW l).length := (List.getElem?_eq_some_iff.1 hj).1
  have := hg.2.1 j (by rw [outW_len]; exact hlt)
  rw [List.getD_eq_getElem?_getD, outW, List.getElem?_map, hj] at this
  exact this
/-- The program's way: each word is read by the library's Atoi; the list must have the text. V: what the first words read as. -/
def AtTo (l : List UInt8) (k : Nat) (V : List Int) : Prop := V.length = k ∧ ∀ j, j < k → ∀ w, (splitW l)[j]? = some w → Lib.atoiAll w = .ok (V.getD j 0)
theorem AtTo.zero (l : List UInt8) : AtTo l 0 [] := ⟨rfl, fun j h => by omega⟩
theorem AtTo.snoc {l w : List UInt8} {k : Nat} {V : List Int} {x : Int} (h : AtTo l k V) (hw : (splitW l)[k]? = some w) (hx : Lib.atoiAll w = .ok x) : AtTo l (k + 1) (V ++ [x]) := by
  obtain ⟨h1, h2⟩ := h
  refine ⟨by simp [h1], fun j hj v hv => ?_⟩
  by_cases e : j = k
  · subst e
    rw [hw] at hv
    simp at hv; subst hv
    rw [hx, List.getD_eq_getElem?_getD, List.getElem?_append_right (by omega), h1]; simp
  · rw [h2 j (by omega) v hv, List.getD_eq_getElem?_getD, List.getD_eq_getElem?_getD, List.getElem?_append_left (by omega)]
/-- A word that Atoi doesn't read: there is no list. -/
theorem at_fail {l w : List UInt8} {k : Nat} (h : ¬ l = [48]) (hw : (splitW l)[k]? = some w) (hx : ∀ x, Lib.atoiAll w ≠ .ok x) : parB l = false ∧ parR l = [] := by
  refine par_no h fun ⟨_, hg⟩ => ?_
  obtain ⟨h0, _⟩ := out_word hg hw
  exact hx _ (dd_read h0 rfl).2
theorem at_good {l : List UInt8} {V : List Int} (hV : AtTo l (splitW l).length V) (hg : Good (outW l)) : V = outW l ∧ splitW l = V.map dd := by
  have e : V = outW l := by
    apply List.ext_getElem?
    intro j
    by_cases hj : j < (splitW l).length
    · have hw : (splitW l)[j]? = some (splitW l)[j] := List.getElem?_eq_getElem hj
      obtain ⟨h0, _⟩ := out_word hg hw
      have h1 := hV.2 j hj _ hw
      rw [(dd_read h0 rfl).2] at h1
      injection h1 with h1
      rw [outW, List.getElem?_map, hw, List.getElem?_eq_getElem (by rw [hV.1]; exact hj)]
      rw [List.getD_eq_getElem?_getD, List.getElem?_eq_getElem (by rw [hV.1]; exact hj)] at h1
      simp at h1
      simp [h1]
    · rw [List.getElem?_eq_none (by rw [hV.1]; omega), List.getElem?_eq_none (by rw [outW_len]; omega)]
  refine ⟨e, ?_⟩
  rw [e, outW, List.map_map]
  symm
  apply List.ext_getElem?
  intro j
  rw [List.getElem?_map]
  by_cases hj : j < (splitW l).length
  · have hw : (splitW l)[j]? = some (splitW l)[j] := List.getElem?_eq_getElem hj
    obtain ⟨h0, _⟩ := out_word hg hw
    rw [hw]
    simp [(dd_read h0 rfl).1]
  · rw [List.getElem?_eq_none (by omega)]; rfl
/-- The list isn't one of pieces. -/
theorem at_bad {l : List UInt8} {V : List Int} (h : ¬ l = [48]) (hV : AtTo l (splitW l).length V) (hb : ¬ Good V) : parB l = false ∧ parR l = [] := by
  refine par_no h fun ⟨_, hg⟩ => ?_
  obtain ⟨e, _⟩ := at_good hV hg
  rw [← e] at hg
  exact hb hg
/-- It has another text. -/
theorem at_other {l : List UInt8} {V : List Int} (h : ¬ l = [48]) (hV : AtTo l (splitW l).length V) (ht : txtK V V.length ≠ l) : parB l = false ∧ parR l = [] := by
  refine par_no h fun ⟨_, hg⟩ => ?_
  obtain ⟨_, e⟩ := at_good hV hg
  refine ht ?_
  unfold txtK
  rw [List.take_length, ← e, join_splitW]
theorem txt_len {V : List Int} (hg : Good V) : ∀ k, k ≤ V.length → (txtK V k).length ≤ 6 * k := by
  intro k
  induction k with
  | zero => intro _; rw [txtK_zero]; simp
  | succ k ih =>
    intro hk
    have h1 := ih (by omega)
    have h3 := (hg.2.1 k (by omega)).2
    have h2 : (dd (V.getD k 0)).length ≤ 5 := digits_len 4 _ (by omega)
    by_cases h0 : k = 0
    · subst h0; rw [txtK_one (by omega) rfl]; omega
    · rw [txtK_succ (by omega) (by omega) rfl, List.length_append, List.length_append, List.length_singleton]; omega
/-- It has this text. -/
theorem at_same {l : List UInt8} {V : List Int} (h : ¬ l = [48]) (hn : V ≠ []) (hg : Good V) (ht : txtK V V.length = l) : parB l = true ∧ parR l = V := by
  have hl := txt_len hg _ (Nat.le_refl _)
  have hs : splitW l = V.map dd := by
    rw [← ht]
    unfold txtK
    rw [List.take_length]
    refine splitW_join _ (by simpa using hn) fun w hw b hb => ?_
    obtain ⟨x, _, rfl⟩ := List.mem_map.1 hw
    have := digits_all _ b hb
    intro e
    subst e
    exact absurd this.1 (by decide)
  have ho : outW l = V := by
    rw [outW, hs, List.map_map]
    apply List.ext_getElem?
    intro j
    rw [List.getElem?_map]
    by_cases hj : j < V.length
    · have := hg.2.1 j hj
      rw [List.getD_eq_getElem?_getD] at this
      rw [List.getElem?_eq_getElem hj] at this ⊢
      simp at this
      simp [read_dd this.1 this.2]
    · rw [List.getElem?_eq_none (by omega)]; rfl
  have hg2 := hg.1
  have := par_yes h (by rw [← ht]; omega) (by rw [ho]; exact hg)
  rw [ho] at this
  exact this

end Go.Proofs.YtaihgdecoaajoaaDoor
