/-
  What a text of a ruler reads as: the two ways to tell it agree. No program in this text.
-/
import Derived.Test.YtaihgdecoaajoaaDoorPspR
namespace Go.Proofs.YtaihgdecoaajoaaDoor.R
open Go.RowKit

theorem dd_read {w : List UInt8} {x : Int} (h0 : 0 ≤ x) (h : readW w = x) : dd x = w ∧ Lib.atoiAll w = .ok x := by
  unfold readW at h
  split at h
  · rename_i hc
    cases e : Lib.decFrom 0 w with
    | none => rw [e] at h; simp at h; omega
    | some n =>
      rw [e] at h
      simp at h
      subst h
      have hne : w ≠ [] := by
        intro e2; subst e2; simp at hc
      refine ⟨?_, ?_⟩
      · unfold dd
        rw [show ((n : Nat) : Int).toNat = n by omega]
        refine digits_of_dec w n hne ?_ e
        by_cases h48 : w.headD 0 = 48
        · right
          have h2 : ¬ 1 < w.length := fun h1 => hc.2.2 ⟨h48, h1⟩
          omega
        · exact .inl h48
      · rw [Lib.atoiAll_short w (by omega)]
        cases w with
        | nil => exact absurd rfl hne
        | cons b r =>
          have hb : 48 ≤ b.toNat := by
            cases ed : Lib.digitVal b with
            | none => simp [Lib.decFrom, ed] at e
            | some d => exact (Lib.digitVal_eq ed).1
          have n45 : (b == 45) = false := by
            rw [beq_eq_false_iff_ne]; intro e3; subst e3; exact absurd hb (by decide)
          have n43 : (b == 43) = false := by
            rw [beq_eq_false_iff_ne]; intro e3; subst e3; exact absurd hb (by decide)
          simp [Lib.atoi, n45, n43, Lib.decNat, e, Lib.NumEnd.ofOption]
  · omega

theorem read_dd {x : Int} (h0 : 0 ≤ x) (h1 : x ≤ 60) : readW (dd x) = x := by
  by_cases e : x = 0
  · subst e
    have h2 : Lib.decDigits 0 = [48] := by rw [Lib.decDigits_one (by omega)]; rfl
    unfold readW dd
    rw [show (0 : Int).toNat = 0 from rfl, dec_digits, if_pos (by rw [h2]; decide)]; rfl
  · exact Go.Proofs.YtaihgdecoaajoaaDoor.read_dd (by omega) (by omega)
/-- What a text reads as: the model's way. -/
def outW (l : List UInt8) : List Int := (splitW l).map readW
noncomputable def parB (l : List UInt8) : Bool := @decide (l.length ≤ 200 ∧ Rul (outW l)) (Classical.propDecidable _)
noncomputable def parR (l : List UInt8) : List Int := if parB l = true then outW l else []
theorem outW_len (l : List UInt8) : (outW l).length = (splitW l).length := by simp [outW]
theorem outW_succ {l : List UInt8} {k : Nat} {w : List UInt8} (h : (splitW l)[k]? = some w) : (outW l).take (k + 1) = (outW l).take k ++ [readW w] := by
  unfold outW
  rw [List.take_add_one, List.getElem?_map, h]; rfl
theorem par_iff {l : List UInt8} : parB l = true ↔ (l.length ≤ 200 ∧ Rul (outW l)) := by simp [parB]
theorem par_yes {l : List UInt8} (h1 : l.length ≤ 200) (h2 : Rul (outW l)) : parB l = true ∧ parR l = outW l := by
  have := par_iff.2 ⟨h1, h2⟩
  exact ⟨this, by simp [parR, this]⟩
theorem par_no {l : List UInt8} (h1 : ¬ (l.length ≤ 200 ∧ Rul (outW l))) : parB l = false ∧ parR l = [] := by
  have : parB l = false := by
    rw [Bool.eq_false_iff]; intro e; exact h1 (par_iff.1 e)
  exact ⟨this, by simp [parR, this]⟩
theorem parR_len (l : List UInt8) : (parR l).length ≤ l.length + 1 := by
  unfold parR
  split
  · rw [outW_len]; exact splitW_len l
  · simp
theorem out_word {l : List UInt8} (hg : Rul (outW l)) {j : Nat} {w : List UInt8} (hj : (splitW l)[j]? = some w) : 0 ≤ readW w ∧ readW w ≤ 60 := by
  have hlt : j < (splitW l).length := (List.getElem?_eq_some_iff.1 hj).1
  have := hg.ris.1 j (by rw [outW_len]; exact hlt)
  rw [List.getD_eq_getElem?_getD, outW, List.getElem?_map, hj] at this
  exact this
/-- The program's way: each word is read by the library's Atoi; the list must have the text. V: what the first words read as. -/
def AtTo (l : List UInt8) (k : Nat) (V : List Int) : Prop := V.length = k ∧ ∀ j, j < k → ∀ w, (splitW l)[j]? = some w → Lib.atoiAll w = .ok (V.getD j 0)
theorem AtTo.zero (l : List UInt8) : AtTo l 0 [] := ⟨rfl, fun j h => by omega⟩
theorem AtTo.snoc {l w : List UInt8} {k : Nat} {V : List Int} {x : Int} (h : AtTo l k V) (hw : (splitW l)[k]? = some w) (hx : Lib.atoiAll w = .ok x) : AtTo l (k + 1) (V ++ [x]) := by
  obtain ⟨h1, h2⟩ := h
  refine ⟨by simp [h1], fun j hj v hv => ?_⟩
  by_cases e : j = k
  · subst e
    rw [hw] at hv
    simp at hv; subst hv
    rw [hx, List.getD_eq_getElem?_getD, List.getElem?_append_right (by omega), h1]; simp
  · rw [h2 j (by omega) v hv, List.getD_eq_getElem?_getD, List.getD_eq_getElem?_getD, List.getElem?_append_left (by omega)]
theorem at_good {l : List UInt8} {V : List Int} (hV : AtTo l (splitW l).length V) (hg : Rul (outW l)) : V = outW l ∧ splitW l = V.map dd := by
  have e : V = outW l := by
    apply List.ext_getElem?
    intro j
    by_cases hj : j < (splitW l).length
    · have hw : (splitW l)[j]? = some (splitW l)[j] := List.getElem?_eq_getElem hj
      obtain ⟨h0, _⟩ := out_word hg hw
      have h1 := hV.2 j hj _ hw
      rw [(dd_read h0 rfl).2] at h1
      injection h1 with h1
      rw [outW, List.getElem?_map, hw, List.getElem?_eq_getElem (by rw [hV.1]; exact hj)]
      rw [List.getD_eq_getElem?_getD, List.getElem?_eq_getElem (by rw [hV.1]; exact hj)] at h1
      simp at h1
      simp [h1]
    · rw [List.getElem?_eq_none (by rw [hV.1]; omega), List.getElem?_eq_none (by rw [outW_len]; omega)]
  refine ⟨e, ?_⟩
  rw [e, outW, List.map_map]
  symm
  apply List.ext_getElem?
  intro j
  rw [List.getElem?_map]
  by_cases hj : j < (splitW l).length
  · have hw : (splitW l)[j]? = some (splitW l)[j] := List.getElem?_eq_getElem hj
    obtain ⟨h0, _⟩ := out_word hg hw
    rw [hw]
    simp [(dd_read h0 rfl).1]
  · rw [List.getElem?_eq_none (by omega)]; rfl
/-- The list isn't a ruler. -/
theorem at_bad {l : List UInt8} {V : List Int} (hV : AtTo l (splitW l).length V) (hb : ¬ Rul V) : parB l = false ∧ parR l = [] := by
  refine par_no fun ⟨_, hg⟩ => ?_
  obtain ⟨e, _⟩ := at_good hV hg
  rw [← e] at hg
  exact hb hg
/-- If no list that the words read as has this text, then the text is no ruler's. -/
theorem at_none {l : List UInt8} (H : ∀ V, AtTo l (splitW l).length V → itG 124 V ≠ l) : parB l = false ∧ parR l = [] := by
  refine par_no fun ⟨_, hg⟩ => ?_
  have hA : AtTo l (splitW l).length (outW l) := by
    refine ⟨outW_len l, fun j hj w hw => ?_⟩
    obtain ⟨h0, _⟩ := out_word hg hw
    rw [(dd_read h0 rfl).2, List.getD_eq_getElem?_getD, outW, List.getElem?_map, hw]; rfl
  refine H _ hA ?_
  obtain ⟨_, e⟩ := at_good hA hg
  rw [← itR_txt hg]
  unfold txtR
  rw [List.take_length, ← e, join_splitW]
theorem txt_len {V : List Int} (hg : Rul V) : ∀ k, k ≤ V.length → (txtR V k).length ≤ 3 * k := by
  intro k
  induction k with
  | zero => intro _; rw [txtR_zero]; simp
  | succ k ih =>
    intro hk
    have h1 := ih (by omega)
    have h3 := (hg.ris.1 k (by omega)).2
    have h2 : (dd (V.getD k 0)).length ≤ 2 := digits_len 1 _ (by omega)
    by_cases h0 : k = 0
    · subst h0; rw [txtR_one (by omega) rfl]; omega
    · rw [txtR_succ (by omega) (by omega) rfl, List.length_append, List.length_append, List.length_singleton]; omega
/-- It has this text. -/
theorem at_same {l : List UInt8} {V : List Int} (hg : Rul V) (ht : itG 124 V = l) : parB l = true ∧ parR l = V := by
  have hl := txt_len hg _ (Nat.le_refl _)
  rw [itR_txt hg, ht] at hl
  have h61 := hg.last_bd.2.2
  have h2 := hg.two
  have hs : splitW l = V.map dd := by
    rw [← ht, ← itR_txt hg]
    unfold txtR
    rw [List.take_length]
    refine splitW_join _ (fun e => by rw [List.map_eq_nil_iff] at e; rw [e] at h2; simp at h2) fun w hw b hb => ?_
    obtain ⟨x, _, rfl⟩ := List.mem_map.1 hw
    have := digits_all _ b hb
    intro e
    subst e
    exact absurd this.2 (by decide)
  have ho : outW l = V := by
    rw [outW, hs, List.map_map]
    apply List.ext_getElem?
    intro j
    rw [List.getElem?_map]
    by_cases hj : j < V.length
    · have := rul_mem hg (List.getElem_mem hj)
      rw [List.getElem?_eq_getElem hj]
      simp [read_dd this.1 this.2]
    · rw [List.getElem?_eq_none (by omega)]; rfl
  have := par_yes (l := l) (by omega) (by rw [ho]; exact hg)
  rw [ho] at this
  exact this

end Go.Proofs.YtaihgdecoaajoaaDoor.R
