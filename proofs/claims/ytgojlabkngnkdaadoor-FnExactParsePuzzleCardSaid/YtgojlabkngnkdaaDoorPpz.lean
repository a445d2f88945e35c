/-
  What a text of a puzzle reads as: the model's way and the program's agree. No program in this text.
-/
import Derived.Test.YtgojlabkngnkdaaDoorPspC
import Derived.Test.YtgojlabkngnkdaaDoorPrsP
import Derived.Test.YtgojlabkngnkdaaDoorYmk
namespace Go.Proofs.YtgojlabkngnkdaaDoor
open Go.RowKit

theorem dd_read0 {w : List UInt8} {x : Int} (h0 : 0 ≤ x) (h : readW w = x) : dd x = w ∧ Lib.atoiAll w = .ok x := by
  unfold readW at h
  split at h
  · rename_i hc
    cases e : Lib.decFrom 0 w with
    | none => rw [e] at h; simp at h; omega
    | some n =>
      rw [e] at h
      simp at h
      subst h
      have hne : w ≠ [] := by
        intro e2; subst e2; simp at hc
      refine ⟨?_, ?_⟩
      · unfold dd
        rw [show ((n : Nat) : Int).toNat = n by omega]
        refine digits_of_dec w n hne ?_ e
        by_cases h48 : w.headD 0 = 48
        · right
          have h2 : ¬ 1 < w.length := fun h1 => hc.2.2 ⟨h48, h1⟩
          omega
        · exact .inl h48
      · rw [Lib.atoiAll_short w (by omega)]
        cases w with
        | nil => exact absurd rfl hne
        | cons b r =>
          have hb : 48 ≤ b.toNat := by
            cases ed : Lib.digitVal b with
            | none => simp [Lib.decFrom, ed] at e
            | some d => exact (Lib.digitVal_eq ed).1
          have n45 : (b == 45) = false := by
            rw [beq_eq_false_iff_ne]; intro e3; subst e3; exact absurd hb (by decide)
          have n43 : (b == 43) = false := by
            rw [beq_eq_false_iff_ne]; intro e3; subst e3; exact absurd hb (by decide)
          simp [Lib.atoi, n45, n43, Lib.decNat, e, Lib.NumEnd.ofOption]
  · omega

theorem read_dd0 {x : Int} (h0 : 0 ≤ x) (h1 : x ≤ 10000) : readW (dd x) = x := by
  by_cases e : x = 0
  · subst e
    have h2 : Lib.decDigits 0 = [48] := by rw [Lib.decDigits_one (by omega)]; rfl
    unfold readW dd
    rw [show (0 : Int).toNat = 0 from rfl, dec_digits, if_pos (by rw [h2]; decide)]; rfl
  · exact read_dd (by omega) h1
/-- The clue that a word tells, the model's way. -/
def cw (l : List UInt8) : Cl := ⟨readW ((P.splitW l).getD 0 []), readW ((P.splitW l).getD 1 []), readW ((P.splitW l).getD 2 [])⟩
def pf (l : List UInt8) : List Cl := if l = [] then [] else (C.splitW l).map cw
def ppB (l : List UInt8) : Bool := pzB (pf l) && decide (txtP (pf l) (pf l).length = l)
def ppR (l : List UInt8) : List Cl := if ppB l = true then pf l else []
theorem txtP_all (cs : List Cl) : txtP cs cs.length = Lib.join (cs.map clT) [44] := by unfold txtP; rw [List.take_length]
theorem dd_no {x : Int} {b : UInt8} (hb : b ∈ dd x) : ¬ b = 44 ∧ ¬ b = 46 := by
  have := digits_all _ b hb
  constructor <;> (intro e; subst e; exact absurd this.1 (by decide))
theorem clT_join (c : Cl) : clT c = Lib.join [dd c.k, dd c.a, dd c.b] [46] := by
  unfold clT
  rw [Lib.join_cons, joinTail_cons, joinTail_cons]
  simp [Lib.joinTail]
theorem clT_split (c : Cl) : P.splitW (clT c) = [dd c.k, dd c.a, dd c.b] := by
  rw [clT_join]
  refine P.splitW_join _ (by simp) fun w hw b hb => ?_
  simp only [List.mem_cons, List.not_mem_nil, or_false] at hw
  rcases hw with rfl | rfl | rfl <;> exact (dd_no hb).2
theorem clT_no {c : Cl} {b : UInt8} (hb : b ∈ clT c) : ¬ b = 44 := by
  unfold clT at hb
  simp only [List.mem_append, List.mem_singleton] at hb
  rcases hb with (((h | h) | h) | h) | h
  · exact (dd_no h).1
  · subst h; decide
  · exact (dd_no h).1
  · subst h; decide
  · exact (dd_no h).1
theorem clT_ne (c : Cl) : clT c ≠ [] := by
  unfold clT
  simp
theorem txt_split {cs : List Cl} (h : cs ≠ []) : C.splitW (txtP cs cs.length) = cs.map clT := by
  rw [txtP_all]
  refine C.splitW_join _ (by simpa using h) fun w hw b hb => ?_
  obtain ⟨c, _, rfl⟩ := List.mem_map.1 hw
  exact clT_no hb
theorem txt_ne {cs : List Cl} (h : cs ≠ []) : txtP cs cs.length ≠ [] := by
  cases cs with
  | nil => exact absurd rfl h
  | cons c t =>
    rw [txtP_all, List.map_cons, Lib.join_cons]
    intro e
    exact clT_ne c (List.append_eq_nil_iff.1 e).1
theorem cw_clT {c : Cl} (h : (0 ≤ c.k ∧ c.k ≤ 1000) ∧ (0 ≤ c.a ∧ c.a ≤ 1000) ∧ 0 ≤ c.b ∧ c.b ≤ 1000) : cw (clT c) = c := by
  unfold cw
  rw [clT_split]
  simp only [List.getD_cons_zero, List.getD_cons_succ]
  rw [read_dd0 h.1.1 (by omega), read_dd0 h.2.1.1 (by omega), read_dd0 h.2.2.1 (by omega)]
theorem pf_txt {cs : List Cl} (h : pzB cs = true) : pf (txtP cs cs.length) = cs := by
  by_cases hn : cs = []
  · subst hn; rfl
  · unfold pf
    rw [if_neg (txt_ne hn), txt_split hn, List.map_map]
    conv => rhs; rw [← List.map_id cs]
    refine List.map_congr_left fun c hc => ?_
    obtain ⟨j, hj, rfl⟩ := List.getElem_of_mem hc
    exact cw_clT ((pz_cl h).2 j hj)
theorem pp_of {l : List UInt8} {cs : List Cl} (h : pzB cs = true) (ht : txtP cs cs.length = l) : ppB l = true ∧ ppR l = cs := by
  have e : pf l = cs := by rw [← ht]; exact pf_txt h
  have b : ppB l = true := by unfold ppB; rw [e, h]; simp [ht]
  exact ⟨b, by unfold ppR; rw [if_pos b, e]⟩
theorem pp_good {l : List UInt8} (h : ppB l = true) : pzB (pf l) = true ∧ txtP (pf l) (pf l).length = l := by
  unfold ppB at h
  rw [Bool.and_eq_true] at h
  exact ⟨h.1, of_decide_eq_true h.2⟩
theorem pp_no {l : List UInt8} (h : ∀ cs, pzB cs = true → txtP cs cs.length ≠ l) : ppB l = false ∧ ppR l = [] := by
  have b : ppB l = false := by
    rw [Bool.eq_false_iff]; intro e
    have G := pp_good e
    exact h _ G.1 G.2
  exact ⟨b, by unfold ppR; rw [b]; rfl⟩
theorem ppR_len (l : List UInt8) : (ppR l).length ≤ 6 := by
  unfold ppR
  split
  · rename_i h; exact (pz_cl (pp_good h).1).1
  · simp
theorem dd_short {x : Int} (h0 : 0 ≤ x) (h1 : x ≤ 1000) : (dd x).length ≤ 4 := digits_len 3 _ (by omega)
theorem txt_short {cs : List Cl} (h : pzB cs = true) : (txtP cs cs.length).length ≤ 100 := by
  have P := pz_cl h
  rw [txtP_all]
  have := join_lenM 44 14 (cs.map clT) (by
    intro l hl
    obtain ⟨c, hc, rfl⟩ := List.mem_map.1 hl
    obtain ⟨j, hj, rfl⟩ := List.getElem_of_mem hc
    have Q := P.2 j hj
    have h1 := dd_short Q.1.1 Q.1.2
    have h2 := dd_short Q.2.1.1 Q.2.1.2
    have h3 := dd_short Q.2.2.1 Q.2.2.2
    unfold clT
    simp only [List.length_append, List.length_singleton]
    omega)
  rw [List.length_map] at this
  omega
/-- A text with such a word is none of a puzzle's. -/
theorem pp_word {l : List UInt8} (hn : l ≠ []) {w : List UInt8} {k : Nat} (hw : (C.splitW l)[k]? = some w) (hc : ∀ c : Cl, ((0 ≤ c.k ∧ c.k ≤ 1000) ∧ (0 ≤ c.a ∧ c.a ≤ 1000) ∧ 0 ≤ c.b ∧ c.b ≤ 1000) → clT c ≠ w) : ppB l = false ∧ ppR l = [] := by
  refine pp_no fun cs hg ht => ?_
  have hne : cs ≠ [] := by rintro rfl; exact hn ht.symm
  rw [← ht, txt_split hne, List.getElem?_map] at hw
  cases hq : cs[k]? with
  | none => rw [hq] at hw; simp at hw
  | some c =>
    rw [hq] at hw
    simp only [Option.map_some, Option.some.injEq] at hw
    obtain ⟨hj, rfl⟩ := List.getElem?_eq_some_iff.1 hq
    exact hc _ ((pz_cl hg).2 k hj) hw
/-- What the program reads of a word. -/
def WordIs (w : List UInt8) (c : Cl) : Prop := P.AtTo w (P.splitW w).length [c.k, c.a, c.b] ∧ itG 46 [c.k, c.a, c.b] = w
theorem word_cl {c : Cl} (h : (0 ≤ c.k ∧ c.k ≤ 1000) ∧ (0 ≤ c.a ∧ c.a ≤ 1000) ∧ 0 ≤ c.b ∧ c.b ≤ 1000) : WordIs (clT c) c := by
  refine ⟨?_, clT_it h.1.1 h.2.1.1 h.2.2.1⟩
  rw [clT_split]
  refine ⟨rfl, fun j hj w hw => ?_⟩
  rw [clT_split] at hw
  have k0 := (dd_read0 h.1.1 (read_dd0 h.1.1 (by omega))).2
  have k1 := (dd_read0 h.2.1.1 (read_dd0 h.2.1.1 (by omega))).2
  have k2 := (dd_read0 h.2.2.1 (read_dd0 h.2.2.1 (by omega))).2
  match j, hj with
  | 0, _ => simp at hw; subst hw; simpa using k0
  | 1, _ => simp at hw; subst hw; simpa using k1
  | 2, _ => simp at hw; subst hw; simpa using k2
theorem word_same {w : List UInt8} {c d : Cl} (h : WordIs w c) (g : WordIs w d) : c = d := by
  have := P.at_uniq h.1 g.1
  simp only [List.cons.injEq, and_true] at this
  obtain ⟨h1, h2, h3⟩ := this
  cases c; cases d
  simp_all
theorem word_none {w : List UInt8} (hV : ∀ V, P.AtTo w (P.splitW w).length V → itG 46 V ≠ w) {c : Cl} (h : (0 ≤ c.k ∧ c.k ≤ 1000) ∧ (0 ≤ c.a ∧ c.a ≤ 1000) ∧ 0 ≤ c.b ∧ c.b ≤ 1000) : clT c ≠ w := by
  rintro rfl
  have W := word_cl h
  exact hV _ W.1 W.2
theorem word_long {w : List UInt8} {V : List Int} (hV : P.AtTo w (P.splitW w).length V) (h3 : V.length ≠ 3) {c : Cl} (h : (0 ≤ c.k ∧ c.k ≤ 1000) ∧ (0 ≤ c.a ∧ c.a ≤ 1000) ∧ 0 ≤ c.b ∧ c.b ≤ 1000) : clT c ≠ w := by
  rintro rfl
  have W := word_cl h
  have := P.at_uniq hV W.1
  rw [this] at h3
  exact h3 rfl
/-- The words so far, as the program reads them. -/
def WsIs (l : List UInt8) (k : Nat) (cs : List Cl) : Prop := cs.length = k ∧ ∀ j, j < k → ∀ w, (C.splitW l)[j]? = some w → ∀ c, cs[j]? = some c → WordIs w c
theorem WsIs.zero (l : List UInt8) : WsIs l 0 [] := ⟨rfl, fun j h => by omega⟩
theorem WsIs.snoc {l w : List UInt8} {k : Nat} {cs : List Cl} {c : Cl} (h : WsIs l k cs) (hw : (C.splitW l)[k]? = some w) (hc : WordIs w c) : WsIs l (k + 1) (cs ++ [c]) := by
  obtain ⟨h1, h2⟩ := h
  refine ⟨by simp [h1], fun j hj v hv d hd => ?_⟩
  by_cases e : j = k
  · subst e
    rw [hw] at hv
    simp at hv; subst hv
    rw [List.getElem?_append_right (by omega), h1] at hd
    simp at hd; subst hd
    exact hc
  · rw [List.getElem?_append_left (by omega)] at hd
    exact h2 j (by omega) v hv d hd
/-- All words read: the text is a puzzle's exactly if the clues are. -/
theorem ws_all {l : List UInt8} (hn : l ≠ []) {cs : List Cl} (h : WsIs l (C.splitW l).length cs) : (pzB cs = true → ppB l = true ∧ ppR l = cs) ∧ (pzB cs = false → ppB l = false ∧ ppR l = []) := by
  constructor
  · intro hg
    refine pp_of hg ?_
    rw [txtP_all]
    have e : cs.map clT = C.splitW l := by
      apply List.ext_getElem?
      intro j
      by_cases hj : j < (C.splitW l).length
      · have hw := List.getElem?_eq_getElem hj
        have hc := List.getElem?_eq_getElem (show j < cs.length by rw [h.1]; exact hj)
        have W := h.2 j hj _ hw _ hc
        have B := (pz_cl hg).2 j (by rw [h.1]; exact hj)
        rw [List.getElem?_map, hc, hw, Option.map_some, ← clT_it B.1.1 B.2.1.1 B.2.2.1, W.2]
      · rw [List.getElem?_eq_none (by rw [List.length_map, h.1]; omega), List.getElem?_eq_none (by omega)]
    rw [e, C.join_splitW]
  · intro hb
    refine pp_no fun ds hg ht => ?_
    have hne : ds ≠ [] := by rintro rfl; exact hn ht.symm
    have hs : C.splitW l = ds.map clT := by rw [← ht]; exact txt_split hne
    have e : cs = ds := by
      apply List.ext_getElem?
      intro j
      by_cases hj : j < ds.length
      · have hj2 : j < (C.splitW l).length := by rw [hs, List.length_map]; exact hj
        have hc := List.getElem?_eq_getElem (show j < cs.length by rw [h.1]; exact hj2)
        have hd := List.getElem?_eq_getElem hj
        have hw : (C.splitW l)[j]? = some (clT ds[j]) := by rw [hs, List.getElem?_map, hd]; rfl
        rw [hc, hd, word_same (h.2 j hj2 _ hw _ hc) (word_cl ((pz_cl hg).2 j hj))]
      · rw [List.getElem?_eq_none (by rw [h.1, hs, List.length_map]; omega), List.getElem?_eq_none (by omega)]
    rw [e, hg] at hb
    cases hb
end Go.Proofs.YtgojlabkngnkdaaDoor
