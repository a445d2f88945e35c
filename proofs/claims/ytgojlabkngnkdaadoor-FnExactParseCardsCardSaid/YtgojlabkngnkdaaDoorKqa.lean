/-
  What a text of cards reads as: the model's way and the program's agree. No program in this text.
  Rows of numbers that a call makes, appended one by one; the library's Cut at a hash. Conditions: the library's variables hold what they held at the start; at most 2^30 rows.
  ParseCards in the program, by its contract. Conditions: a text of at most 2^20 bytes; the library's variables hold what they held at the start.
  Rows of the call's own, marked and found again; cards likewise. Conditions: at most 2^20 rows and numbers.
-/
import Derived.Test.YtgojlabkngnkdaaDoorPspH
import Derived.Test.YtgojlabkngnkdaaDoorPspC
import Derived.Test.YtgojlabkngnkdaaDoorPrsP
import Derived.Test.YtgojlabkngnkdaaDoorKci
import Derived.Lib.IndexMore
import Derived.Test.YtgojlabkngnkdaaDoorPimC
import Derived.Deep.CutRange
import Derived.Test.YtgojlabkngnkdaaDoorPsk4
import Derived.Test.YtgojlabkngnkdaaDoorQcs
namespace Go.Proofs.YtgojlabkngnkdaaDoor
open Go.RowKit

theorem dd_read0 {w : List UInt8} {x : Int} (h0 : 0 ≤ x) (h : readW w = x) : dd x = w ∧ Lib.atoiAll w = .ok x := by
  unfold readW at h
  split at h
  · rename_i hc
    cases e : Lib.decFrom 0 w with
    | none => rw [e] at h; simp at h; omega
    | some n =>
      rw [e] at h
      simp at h
      subst h
      have hne : w ≠ [] := by
        intro e2; subst e2; simp at hc
      refine ⟨?_, ?_⟩
      · unfold dd
        rw [show ((n : Nat) : Int).toNat = n by omega]
        refine digits_of_dec w n hne ?_ e
        by_cases h48 : w.headD 0 = 48
        · right
          have h2 : ¬ 1 < w.length := fun h1 => hc.2.2 ⟨h48, h1⟩
          omega
        · exact .inl h48
      · rw [Lib.atoiAll_short w (by omega)]
        cases w with
        | nil => exact absurd rfl hne
        | cons b r =>
          have hb : 48 ≤ b.toNat := by
            cases ed : Lib.digitVal b with
            | none => simp [Lib.decFrom, ed] at e
            | some d => exact (Lib.digitVal_eq ed).1
          have n45 : (b == 45) = false := by
            rw [beq_eq_false_iff_ne]; intro e3; subst e3; exact absurd hb (by decide)
          have n43 : (b == 43) = false := by
            rw [beq_eq_false_iff_ne]; intro e3; subst e3; exact absurd hb (by decide)
          simp [Lib.atoi, n45, n43, Lib.decNat, e, Lib.NumEnd.ofOption]
  · omega
theorem read_dd0 {x : Int} (h0 : 0 ≤ x) (h1 : x ≤ 10000) : readW (dd x) = x := by
  by_cases e : x = 0
  · subst e
    have h2 : Lib.decDigits 0 = [48] := by rw [Lib.decDigits_one (by omega)]; rfl
    unfold readW dd
    rw [show (0 : Int).toNat = 0 from rfl, dec_digits, if_pos (by rw [h2]; decide)]; rfl
  · exact read_dd (by omega) h1
theorem dd_no {x : Int} {b : UInt8} (hb : b ∈ dd x) : ¬ b = 44 ∧ ¬ b = 46 := by
  have := digits_all _ b hb
  constructor <;> (intro e; subst e; exact absurd this.1 (by decide))
/-- The numbers that a word tells, the model's way. -/
def rowW (w : List UInt8) : List Int := if w = [45] then [] else (P.splitW w).map readW
def ckN (l : List UInt8) : Int := readW ((H.splitW l).getD 0 [])
def bhW (l : List UInt8) : List UInt8 := (H.splitW l).getD 1 []
def ckL (l : List UInt8) : List (List Int) := if bhW l = [] then [] else (C.splitW (bhW l)).map rowW
noncomputable def ckB (l : List UInt8) : Bool := decide ((H.splitW l).length = 2) && (caB (ckN l) (ckL l) && decide (txtC (ckN l) (ckL l) = l))
noncomputable def pcN (l : List UInt8) : Int := if ckB l = true then ckN l else 0
noncomputable def pcL (l : List UInt8) : List (List Int) := if ckB l = true then ckL l else []
theorem mem_join {b s : UInt8} : ∀ {ls : List (List UInt8)}, b ∈ Lib.join ls [s] → b = s ∨ ∃ w ∈ ls, b ∈ w
  | [], h => by rw [Lib.join_nil] at h; simp at h
  | w :: t, h => by
    rw [Lib.join_cons] at h
    rcases List.mem_append.1 h with h | h
    · exact .inr ⟨w, by simp, h⟩
    · induction t with
      | nil => simp [Lib.joinTail] at h
      | cons y r ih =>
        rw [joinTail_cons] at h
        simp only [List.mem_append, List.mem_singleton] at h
        rcases h with (h | h) | h
        · exact .inl h
        · exact .inr ⟨y, by simp, h⟩
        · rcases ih (List.mem_append.2 (.inr h)) h with h | ⟨v, hv, hb⟩
          · exact .inl h
          · rcases List.mem_cons.1 hv with rfl | hv
            · exact .inr ⟨v, by simp, hb⟩
            · exact .inr ⟨v, by simp [hv], hb⟩
theorem dd_dig {x : Int} {b : UInt8} (hb : b ∈ dd x) : 48 ≤ b.toNat ∧ b.toNat ≤ 57 := digits_all _ b hb
theorem dd_nnil (x : Int) : dd x ≠ [] := by
  intro e
  have := dd_nn (x := x)
  rw [e] at this; simp at this
theorem txtD_join (xs : List Int) : txtD xs xs.length = Lib.join (xs.map dd) [46] := by unfold txtD; rw [List.take_length]
theorem rowT_sign {xs : List Int} {b : UInt8} (hb : b ∈ rowT xs) : b = 45 ∨ b = 46 ∨ (48 ≤ b.toNat ∧ b.toNat ≤ 57) := by
  unfold rowT at hb
  split at hb
  · exact .inl (by simpa using hb)
  · rw [txtD_join] at hb
    rcases mem_join hb with h | ⟨w, hw, h⟩
    · exact .inr (.inl h)
    · obtain ⟨x, _, rfl⟩ := List.mem_map.1 hw
      exact .inr (.inr (dd_dig h))
theorem rowT_44 {xs : List Int} {b : UInt8} (hb : b ∈ rowT xs) : ¬ b = 44 := by
  rcases rowT_sign hb with h | h | h
  · subst h; decide
  · subst h; decide
  · intro e; subst e; exact absurd h.1 (by decide)
theorem txtL_join (Ls : List (List Int)) : txtL Ls Ls.length = Lib.join (Ls.map rowT) [44] := by unfold txtL; rw [List.take_length]
theorem txtL_35 {Ls : List (List Int)} {b : UInt8} (hb : b ∈ txtL Ls Ls.length) : ¬ b = 35 := by
  rw [txtL_join] at hb
  rcases mem_join hb with h | ⟨w, hw, h⟩
  · subst h; decide
  · obtain ⟨xs, _, rfl⟩ := List.mem_map.1 hw
    rcases rowT_sign h with h | h | h
    · subst h; decide
    · subst h; decide
    · intro e; subst e; exact absurd h.1 (by decide)
theorem dd_35 {x : Int} {b : UInt8} (hb : b ∈ dd x) : ¬ b = 35 := by
  intro e; subst e; exact absurd (dd_dig hb).1 (by decide)
theorem txtC_join (n : Int) (Ls : List (List Int)) : txtC n Ls = Lib.join [dd n, txtL Ls Ls.length] [35] := by
  unfold txtC
  rw [Lib.join_cons, joinTail_cons]
  simp [Lib.joinTail]
theorem txtC_split (n : Int) (Ls : List (List Int)) : H.splitW (txtC n Ls) = [dd n, txtL Ls Ls.length] := by
  rw [txtC_join]
  refine H.splitW_join _ (by simp) fun w hw b hb => ?_
  simp only [List.mem_cons, List.not_mem_nil, or_false] at hw
  rcases hw with rfl | rfl
  · exact dd_35 hb
  · exact txtL_35 hb
theorem rowT_ne (xs : List Int) : rowT xs ≠ [] := by
  unfold rowT
  split
  · simp
  · rw [txtD_join]
    cases xs with
    | nil => rename_i h; exact absurd rfl h
    | cons x t =>
      rw [List.map_cons, Lib.join_cons]
      intro e
      exact dd_nnil x (List.append_eq_nil_iff.1 e).1
theorem txtL_ne {Ls : List (List Int)} (h : Ls ≠ []) : txtL Ls Ls.length ≠ [] := by
  rw [txtL_join]
  cases Ls with
  | nil => exact absurd rfl h
  | cons x t =>
    rw [List.map_cons, Lib.join_cons]
    intro e
    exact rowT_ne x (List.append_eq_nil_iff.1 e).1
theorem txtL_split {Ls : List (List Int)} (h : Ls ≠ []) : C.splitW (txtL Ls Ls.length) = Ls.map rowT := by
  rw [txtL_join]
  refine C.splitW_join _ (by simpa using h) fun w hw b hb => ?_
  obtain ⟨xs, _, rfl⟩ := List.mem_map.1 hw
  exact rowT_44 hb
theorem row_split {xs : List Int} (h : xs ≠ []) : P.splitW (txtD xs xs.length) = xs.map dd := by
  rw [txtD_join]
  refine P.splitW_join _ (by simpa using h) fun w hw b hb => ?_
  obtain ⟨x, _, rfl⟩ := List.mem_map.1 hw
  exact (dd_no hb).2
theorem row_some {xs : List Int} (h : xs ≠ []) : rowT xs = txtD xs xs.length := rowT_some fun e => h (List.length_eq_zero_iff.1 e)
theorem row_45 {xs : List Int} (h : xs ≠ []) : rowT xs ≠ [45] := by
  rw [row_some h]
  intro e
  have h1 := row_split h
  rw [e] at h1
  cases xs with
  | nil => exact h rfl
  | cons x t =>
    have h2 : P.splitW [45] = [[45]] := by decide
    rw [h2, List.map_cons] at h1
    injection h1 with h1 _
    have := dd_dig (x := x) (b := 45) (by rw [← h1]; simp)
    exact absurd this.1 (by decide)
theorem rowW_rowT {xs : List Int} (h : ∀ x ∈ xs, 0 ≤ x ∧ x ≤ 10000) : rowW (rowT xs) = xs := by
  by_cases e : xs = []
  · subst e; rfl
  · unfold rowW
    rw [if_neg (row_45 e), row_some e, row_split e, List.map_map]
    conv => rhs; rw [← List.map_id xs]
    exact List.map_congr_left fun x hx => read_dd0 (h x hx).1 (h x hx).2
theorem ca_row {n : Int} {Ls : List (List Int)} (h : CaG n Ls) {xs : List Int} (hx : xs ∈ Ls) : ∀ x ∈ xs, 0 ≤ x ∧ x ≤ 10000 := by
  obtain ⟨j, hj, rfl⟩ := List.getElem_of_mem hx
  have r := h.ris j hj
  have e1 : Ls.getD j [] = Ls[j] := by rw [List.getD_eq_getElem?_getD, List.getElem?_eq_getElem hj]; rfl
  rw [e1] at r
  intro x hx
  have := ris_mem r hx
  have := h.hi
  omega
theorem ck_txt {n : Int} {Ls : List (List Int)} (h : CaG n Ls) : ckN (txtC n Ls) = n ∧ ckL (txtC n Ls) = Ls := by
  have h1 : ckN (txtC n Ls) = n := by
    unfold ckN
    rw [txtC_split]
    exact read_dd0 (by have := h.lo; omega) (by have := h.hi; omega)
  refine ⟨h1, ?_⟩
  have h2 : bhW (txtC n Ls) = txtL Ls Ls.length := by unfold bhW; rw [txtC_split]; rfl
  unfold ckL
  rw [h2]
  by_cases e : Ls = []
  · subst e; rfl
  · rw [if_neg (txtL_ne e), txtL_split e, List.map_map]
    conv => rhs; rw [← List.map_id Ls]
    exact List.map_congr_left fun xs hx => rowW_rowT (ca_row h hx)
theorem pc_of {l : List UInt8} {n : Int} {Ls : List (List Int)} (h : caB n Ls = true) (ht : txtC n Ls = l) : ckB l = true ∧ pcN l = n ∧ pcL l = Ls := by
  have K := ck_txt (caB_g h)
  rw [ht] at K
  have b : ckB l = true := by
    unfold ckB
    rw [K.1, K.2, h, ht]
    rw [← ht, txtC_split]; simp
  exact ⟨b, by unfold pcN; rw [if_pos b, K.1], by unfold pcL; rw [if_pos b, K.2]⟩
theorem pc_good {l : List UInt8} (h : ckB l = true) : (H.splitW l).length = 2 ∧ caB (ckN l) (ckL l) = true ∧ txtC (ckN l) (ckL l) = l := by
  unfold ckB at h
  rw [Bool.and_eq_true, Bool.and_eq_true] at h
  exact ⟨of_decide_eq_true h.1, h.2.1, of_decide_eq_true h.2.2⟩
theorem pc_no {l : List UInt8} (h : ∀ n Ls, caB n Ls = true → txtC n Ls ≠ l) : ckB l = false ∧ pcN l = 0 ∧ pcL l = [] := by
  have b : ckB l = false := by
    rw [Bool.eq_false_iff]; intro e
    have G := pc_good e
    exact h _ _ G.2.1 G.2.2
  exact ⟨b, by unfold pcN; rw [b]; rfl, by unfold pcL; rw [b]; rfl⟩
theorem pc_cases (l : List UInt8) (h2 : (H.splitW l).length = 2) : (caB (ckN l) (ckL l) = false ∧ ckB l = false) ∨ (caB (ckN l) (ckL l) = true ∧ ckB l = true ∧ txtC (ckN l) (ckL l) = l) ∨ (caB (ckN l) (ckL l) = true ∧ ckB l = false ∧ txtC (ckN l) (ckL l) ≠ l) := by
  have e : ckB l = (caB (ckN l) (ckL l) && decide (txtC (ckN l) (ckL l) = l)) := by unfold ckB; simp [h2]
  cases hg : caB (ckN l) (ckL l) with
  | false => exact .inl ⟨rfl, by rw [e, hg]; rfl⟩
  | true =>
    by_cases ht : txtC (ckN l) (ckL l) = l
    · exact .inr (.inl ⟨rfl, by rw [e, hg]; simp [ht], ht⟩)
    · exact .inr (.inr ⟨rfl, by rw [e, hg]; simp [ht], ht⟩)
theorem pc_two {l : List UInt8} (h : (H.splitW l).length ≠ 2) : ckB l = false ∧ pcN l = 0 ∧ pcL l = [] := pc_no fun n Ls _ ht => by
  rw [← ht, txtC_split] at h; exact h rfl
theorem rowT_short {xs : List Int} (h : ∀ x ∈ xs, 0 ≤ x ∧ x ≤ 127) (hl : xs.length ≤ 128) : (rowT xs).length ≤ 513 := by
  by_cases e : xs = []
  · subst e; decide
  · rw [row_some e, txtD_join]
    have := join_lenM 46 3 (xs.map dd) (by
      intro l hl
      obtain ⟨x, hx, rfl⟩ := List.mem_map.1 hl
      exact digits_len 2 _ (by have := h x hx; omega))
    rw [List.length_map] at this
    omega
theorem txtC_short {n : Int} {Ls : List (List Int)} (h : caB n Ls = true) : (txtC n Ls).length ≤ 8000 := by
  have G := caB_g h
  have h1 : (dd n).length ≤ 3 := digits_len 2 _ (by have := G.hi; have := G.lo; omega)
  have h2 := join_lenM 44 513 (Ls.map rowT) (by
    intro l hl
    obtain ⟨xs, hx, rfl⟩ := List.mem_map.1 hl
    obtain ⟨j, hj, rfl⟩ := List.getElem_of_mem hx
    have r := G.ris j hj
    have q := G.row hj
    have e1 : Ls.getD j [] = Ls[j] := by rw [List.getD_eq_getElem?_getD, List.getElem?_eq_getElem hj]; rfl
    rw [e1] at r q
    exact rowT_short (fun x hx => by have := ris_mem r hx; have := G.hi; omega) q)
  rw [List.length_map] at h2
  have := G.len
  unfold txtC
  rw [txtL_join]
  simp only [List.length_append, List.length_singleton]
  omega
/-- What the program reads of a word. -/
def RowIs (w : List UInt8) (xs : List Int) : Prop := (w = [45] ∧ xs = []) ∨ (w ≠ [45] ∧ P.AtTo w (P.splitW w).length xs ∧ itG 46 xs = w)
theorem row_is {xs : List Int} (h : ∀ x ∈ xs, 0 ≤ x ∧ x ≤ 10000) : RowIs (rowT xs) xs := by
  by_cases e : xs = []
  · subst e; exact .inl ⟨rfl, rfl⟩
  · refine .inr ⟨row_45 e, ?_, ?_⟩
    · rw [row_some e]
      refine ⟨by rw [row_split e, List.length_map], fun j hj w hw => ?_⟩
      rw [row_split e, List.getElem?_map] at hw
      rw [row_split e, List.length_map] at hj
      rw [List.getElem?_eq_getElem hj] at hw
      simp at hw
      subst hw
      have hx := h _ (List.getElem_mem hj)
      rw [List.getD_eq_getElem?_getD, List.getElem?_eq_getElem hj]
      exact (dd_read0 hx.1 (read_dd0 hx.1 hx.2)).2
    · rw [row_some e, itD fun x hx => (h x hx).1]
theorem row_same {w : List UInt8} {xs ys : List Int} (h : RowIs w xs) (g : RowIs w ys) : xs = ys := by
  rcases h with ⟨h1, rfl⟩ | ⟨h1, h2, _⟩ <;> rcases g with ⟨g1, rfl⟩ | ⟨g1, g2, _⟩
  · rfl
  · exact absurd h1 g1
  · exact absurd g1 h1
  · exact P.at_uniq h2 g2
/-- The words so far, as the program reads them. -/
def RsIs (b : List UInt8) (k : Nat) (L : List (List Int)) : Prop := L.length = k ∧ ∀ j, j < k → ∀ w, (C.splitW b)[j]? = some w → ∀ xs, L[j]? = some xs → RowIs w xs
theorem RsIs.zero (b : List UInt8) : RsIs b 0 [] := ⟨rfl, fun j h => by omega⟩
theorem RsIs.snoc {b w : List UInt8} {k : Nat} {L : List (List Int)} {xs : List Int} (h : RsIs b k L) (hw : (C.splitW b)[k]? = some w) (hc : RowIs w xs) : RsIs b (k + 1) (L ++ [xs]) := by
  obtain ⟨h1, h2⟩ := h
  refine ⟨by simp [h1], fun j hj v hv d hd => ?_⟩
  by_cases e : j = k
  · subst e
    rw [hw] at hv
    simp at hv; subst hv
    rw [List.getElem?_append_right (by omega), h1] at hd
    simp at hd; subst hd
    exact hc
  · rw [List.getElem?_append_left (by omega)] at hd
    exact h2 j (by omega) v hv d hd
/-- What the program reads of all lists. -/
def LsIs (b : List UInt8) (L : List (List Int)) : Prop := (b = [] ∧ L = []) ∨ (b ≠ [] ∧ RsIs b (C.splitW b).length L)
theorem ls_same {Ls : List (List Int)} (h : ∀ xs ∈ Ls, ∀ x ∈ xs, 0 ≤ x ∧ x ≤ 10000) {L : List (List Int)} (g : LsIs (txtL Ls Ls.length) L) : L = Ls := by
  rcases g with ⟨g1, rfl⟩ | ⟨g1, g2⟩
  · by_cases e : Ls = []
    · exact e.symm
    · exact absurd g1 (txtL_ne e)
  · have e : Ls ≠ [] := by rintro rfl; exact g1 rfl
    obtain ⟨g2, g3⟩ := g2
    rw [txtL_split e] at g3
    rw [txtL_split e, List.length_map] at g2
    apply List.ext_getElem?
    intro j
    by_cases hj : j < Ls.length
    · have hc := List.getElem?_eq_getElem (show j < L.length by omega)
      have hd := List.getElem?_eq_getElem hj
      have := g3 j (by rw [List.length_map]; exact hj) (rowT Ls[j]) (by rw [List.getElem?_map, hd]; rfl) _ hc
      rw [hc, hd, row_same this (row_is (h _ (List.getElem_mem hj)))]
    · rw [List.getElem?_eq_none (by omega), List.getElem?_eq_none (by omega)]
theorem ls_none {Ls : List (List Int)} (h : ∀ xs ∈ Ls, ∀ x ∈ xs, 0 ≤ x ∧ x ≤ 10000) {b w : List UInt8} (hb : b ≠ []) {k : Nat} (hw : (C.splitW b)[k]? = some w) (h45 : w ≠ [45]) (hV : ∀ V, P.AtTo w (P.splitW w).length V → itG 46 V ≠ w) : b ≠ txtL Ls Ls.length := by
  rintro rfl
  have e : Ls ≠ [] := by rintro rfl; exact hb rfl
  rw [txtL_split e, List.getElem?_map] at hw
  cases hq : Ls[k]? with
  | none => rw [hq] at hw; simp at hw
  | some xs =>
    rw [hq] at hw
    simp only [Option.map_some, Option.some.injEq] at hw
    subst hw
    obtain ⟨hj, rfl⟩ := List.getElem?_eq_some_iff.1 hq
    rcases row_is (h _ (List.getElem_mem hj)) with ⟨g, _⟩ | ⟨_, g2, g3⟩
    · exact h45 g
    · exact hV _ g2 g3
theorem index_35 : ∀ (p r : List UInt8), (∀ b ∈ p, ¬ b = 35) → Lib.index (p ++ 35 :: r) [35] = p.length
  | [], r, _ => by rw [List.nil_append, H.index_one, if_pos rfl]; rfl
  | b :: p, r, h => by
    rw [List.cons_append, H.index_one, if_neg (h b (by simp)), index_35 p r fun c hc => h c (by simp [hc]), if_neg (by omega), List.length_cons]
    omega
theorem cut_txt (n : Int) (Ls : List (List Int)) : (Lib.cut (txtC n Ls) [35]).1 = dd n ∧ (Lib.cut (txtC n Ls) [35]).2.1 = txtL Ls Ls.length := by
  have e : txtC n Ls = dd n ++ 35 :: txtL Ls Ls.length := by unfold txtC; simp
  have i := index_35 (dd n) (txtL Ls Ls.length) fun b hb => dd_35 hb
  unfold Lib.cut
  rw [e, i, if_pos (by omega)]
  constructor
  · simp
  · simp
/-- The program's reading fails ahead of the lists. -/
theorem pc_front {l : List UInt8} (h : ∀ x, Lib.atoiAll (Lib.cut l [35]).1 ≠ .ok x) : ckB l = false ∧ pcN l = 0 ∧ pcL l = [] := pc_no fun n Ls hg ht => by
  have G := caB_g hg
  rw [← ht, (cut_txt n Ls).1] at h
  have hn : 0 ≤ n := by have := G.lo; omega
  exact h n (dd_read0 hn (read_dd0 hn (by have := G.hi; omega))).2
theorem pc_lists {l : List UInt8} (hb : (Lib.cut l [35]).2.1 ≠ []) {k : Nat} {w : List UInt8} (hw : (C.splitW (Lib.cut l [35]).2.1)[k]? = some w) (h45 : w ≠ [45]) (hV : ∀ V, P.AtTo w (P.splitW w).length V → itG 46 V ≠ w) : ckB l = false ∧ pcN l = 0 ∧ pcL l = [] := pc_no fun n Ls hg ht => by
  have G := caB_g hg
  have e := (cut_txt n Ls).2
  rw [ht] at e
  exact ls_none (fun xs hx => ca_row G hx) hb hw h45 hV e
theorem pc_read {l : List UInt8} {n : Int} {L : List (List Int)} (hn : Lib.atoiAll (Lib.cut l [35]).1 = .ok n) (hL : LsIs (Lib.cut l [35]).2.1 L) (h : ¬ (caB n L = true ∧ txtC n L = l)) : ckB l = false ∧ pcN l = 0 ∧ pcL l = [] := pc_no fun m Ls hg ht => by
  have G := caB_g hg
  have e := cut_txt m Ls
  rw [ht] at e
  rw [e.1] at hn
  rw [e.2] at hL
  have hm : 0 ≤ m := by have := G.lo; omega
  rw [(dd_read0 hm (read_dd0 hm (by have := G.hi; omega))).2] at hn
  injection hn with hn
  rw [ls_same (fun xs hx => ca_row G hx) hL, ← hn] at h
  exact h ⟨hg, ht⟩
theorem cut_len (l : List UInt8) : (Lib.cut l [35]).1.length ≤ l.length ∧ (Lib.cut l [35]).2.1.length ≤ l.length := by
  unfold Lib.cut
  split
  · simp only [List.length_take, List.length_drop]; omega
  · simp
theorem Few2.len {pl : List (List Int)} (h : Few2 pl) : pl.length ≤ 1048576 := by unfold Few2 at h; omega
theorem Few2.tot {pl : List (List Int)} (h : Few2 pl) : tot pl pl.length ≤ 1048576 := by unfold Few2 at h; omega
theorem tot_row_le {pl : List (List Int)} {c : Nat} (h : ∀ j, j < pl.length → (rowL pl j).length ≤ c) : ∀ k, k ≤ pl.length → Go.Proofs.YtgojlabkngnkdaaDoor.tot pl k ≤ c * k := by
  intro k
  induction k with
  | zero => intro _; simp [Go.Proofs.YtgojlabkngnkdaaDoor.tot]
  | succ k ih =>
    intro hk
    have := ih (by omega)
    have := h k (by omega)
    simp only [Go.Proofs.YtgojlabkngnkdaaDoor.tot]
    rw [Nat.mul_succ]
    omega
theorem CaG.few2 {n : Int} {Ls : List (List Int)} (g : CaG n Ls) : Few2 Ls := by
  have h := tot_row_le (c := 128) (fun j hj => g.row hj) Ls.length (Nat.le_refl _)
  have := g.len
  unfold Few2
  omega
theorem few2_nil : Few2 [] := by simp [Few2, Go.Proofs.YtgojlabkngnkdaaDoor.tot]
theorem ls_len {b : List UInt8} {L : List (List Int)} (h : LsIs b L) (hb : b.length ≤ 1048576) : L.length ≤ 1048577 ∧ ∀ j, j < L.length → (rowL L j).length ≤ 1048577 := by
  rcases h with ⟨_, rfl⟩ | ⟨_, h1, h2⟩
  · exact ⟨by simp, fun j hj => by simp at hj⟩
  · have hc := C.splitW_len b
    refine ⟨by omega, fun j hj => ?_⟩
    have hw := List.getElem?_eq_getElem (show j < (C.splitW b).length by omega)
    have hm := C.splitW_mem_len b _ (List.mem_of_getElem? hw)
    have e : rowL L j = L[j] := by unfold rowL; rw [List.getD_eq_getElem?_getD, List.getElem?_eq_getElem hj]; rfl
    rw [e]
    rcases h2 j (by omega) _ hw _ (List.getElem?_eq_getElem hj) with ⟨_, h3⟩ | ⟨_, h3, _⟩
    · rw [h3]; simp
    · have := h3.1
      have := P.splitW_len (C.splitW b)[j]
      omega
theorem pcL_few (l : List UInt8) : Few2 (pcL l) := by
  unfold pcL
  split
  · rename_i h
    exact (caB_g (pc_good h).2.1).few2
  · exact few2_nil
end Go.Proofs.YtgojlabkngnkdaaDoor

namespace Go.Proofs.YtgojlabkngnkdaaDoor
open Go.RowKit

theorem box_set {w : World} {b : Nat} {v x : Value} {t : TypeId} (h : w.heap[b]? = some (.cells #[v] t (0, 0))) : (w.setCell ⟨b, 0, none⟩ x).heap[b]? = some (.cells #[x] t (0, 0)) := by
  simp [World.setCell, Array.getElem?_modify, h]
theorem box_far {w : World} {g k i : Nat} {o : Obj} (h : w.heap[g]? = some o) (hn : g ≠ k) (v : Value) : (w.setCell ⟨k, i, none⟩ v).heap[g]? = some o := by
  rw [heap_setCell_other _ _ _ _ (by show g ≠ k; omega)]; exact h
theorem box_lt {w : World} {g : Nat} {o : Obj} (h : w.heap[g]? = some o) : g < w.heap.size := (Array.getElem?_eq_some_iff.1 h).1
theorem Ws.obj {w : World} {B : Nat} {v : Value} {ls : List ByteArray} (h : Ws w B v ls) (h0 : 0 < ls.length) :
    ∃ g cap o, v = .slice (some ⟨g, 0, none⟩) ls.length cap ∧ B ≤ g ∧ w.heap[g]? = some o ∧ ∀ (W : World), W.heap[g]? = some o → ∀ (j : Nat) x, ls[j]? = some x → W.cell? ⟨g, j, none⟩ = some (.string x) := by
  obtain ⟨_, h2⟩ := h
  rcases h2 with ⟨_, hn⟩ | ⟨g, cap, cur, hv, hg, hh, hnc, hcm, hcs, htake⟩
  · omega
  · refine ⟨g, cap, _, hv, hg, hh, fun W hW j x hx => ?_⟩
    have hj : j < ls.length := (List.getElem?_eq_some_iff.1 hx).1
    have e : cur[j]? = (ls.map Value.string)[j]? := by
      rw [← htake, List.getElem?_take, if_pos (by omega)]; simp
    simp only [World.cell?, hW]
    rw [e, List.getElem?_map, hx]; rfl
theorem split_rowG (l : List UInt8) (hl : l.length ≤ 1073741824) (w : World) (hE : Env w) :
    Calls Tryd.prog 47 #[.string (bstr l), .string ⟨#[44]⟩] w fun e w' => ∃ g, e = .returned (.slice (some ⟨g, 0, none⟩) (C.splitW l).length (C.splitW l).length) ∧ w'.heap[g]? = some (C.wordsO l) ∧ w.heap.size ≤ g ∧ Below w.heap.size w w' := by
  refine (C.split_any l hl w hE).mono ?_
  rintro e w' ⟨rfl, rfl⟩
  exact ⟨_, rfl, heap_alloc_new _ _, Nat.le_refl _, (Below.refl _ w).alloc (Nat.le_refl _) _⟩
theorem Tryd.infoL : (Tryd.prog.info? 55).map (fun i => (i.zero, i.size, i.bytes)) = some (some (.slice none 0 0), 1, 24) := by kernel_rfl
theorem own_ne {w : World} {B C : Nat} {t s : TypeId} {z y n k : Nat} {v u : Value} {xs ys : List Value} (h : w.ownsRow B t z v n xs) (g : w.ownsRow C s y u k ys) (hts : s ≠ t) : u.ownBlock = none ∨ u.ownBlock ≠ v.ownBlock := by
  rcases g.2 with ⟨rfl, _⟩ | ⟨gu, capu, curu, rfl, _, hu, _⟩
  · exact .inl rfl
  · refine .inr fun e => ?_
    rcases h.2 with ⟨rfl, _⟩ | ⟨gv, capv, curv, rfl, _, hv, _⟩
    · simp [Value.ownBlock] at e
    · have e2 : gu = gv := by simpa [Value.ownBlock] using e
      subst e2
      rw [hu] at hv
      simp at hv
      exact hts hv.2
theorem getD_app_lt {α : Type} (a b : List α) (d : α) {j : Nat} (h : j < a.length) : (a ++ b).getD j d = a.getD j d := by
  rw [List.getD_eq_getElem?_getD, List.getD_eq_getElem?_getD, List.getElem?_append_left h]
theorem getD_app_ge {α : Type} (a b : List α) (d : α) {j : Nat} (h : a.length ≤ j) : (a ++ b).getD j d = b.getD (j - a.length) d := by
  rw [List.getD_eq_getElem?_getD, List.getD_eq_getElem?_getD, List.getElem?_append_right h]
theorem Ow.kept {w w' : World} {B : Nat} {v : Value} {ys : List Int} {row : Option Nat} (h : Ow w B v ys) (hg : w.grownBy w' row) (hne : v.ownBlock = none ∨ v.ownBlock ≠ row) : Ow w' B v ys :=
  World.ownsRow.kept h hg hne
theorem wpList_append_row1 {w : World} {ops : Array Oper} {rest : List Oper} {o : Oper} {a : Act} {Q : Exit → Act → World → Prop} (hgd : o.guard = none) (s x : Operand)
    (ho : o.op = .call { callee := .builtin .append, args := #[s, x], argTypes := #[22, 22] })
    (B D : Nat) (v : Value) (pl : List (List Int)) (hs : a.eval s = v) (hr : Owa w B D v pl) (g : Nat) (u : Value) (m : List Int) (hx : a.eval x = .slice (some ⟨g, 0, none⟩) 1 1) (hgc : w.cell? ⟨g, 0, none⟩ = some u)
    (hu : Ow w B u m) (hD : ∀ k, u.ownBlock = some k → D ≤ k) (hlen : pl.length + 1 ≤ 1073741824) (hB : B ≤ w.heap.size)
    (h : ∀ v' w', Owa w' B w'.heap.size v' (pl ++ [m]) → Below B w w' → w.grownBy w' v.ownBlock → wpList Tryd.prog ops Q rest (a.put o.dst v') w') : wpList Tryd.prog ops Q (o :: rest) a w := by
  have hi : ∃ i, Tryd.prog.info? 55 = some i ∧ i.zero = some (.slice none 0 0) ∧ i.size = 1 ∧ i.bytes = 24 := by
    have := Tryd.infoL
    cases hq : Tryd.prog.info? 55 with
    | none => rw [hq] at this; cases this
    | some i => rw [hq] at this; simp at this; exact ⟨i, rfl, this.1, this.2.1, this.2.2⟩
  obtain ⟨i0, hi, hz0, hz1, hz2⟩ := hi
  obtain ⟨vals, hr⟩ := hr
  have hl : vals.length = pl.length := by have := hr.out.1; omega
  have hn : ∀ (j : Nat) y, ([u] : List Value)[j]? = some y → w.cell? ((⟨g, 0, none⟩ : Addr).add j) = some y := by
    intro j y hy
    cases j with
    | zero =>
      have e : u = y := by simpa using hy
      rw [← e]; simpa [Addr.add] using hgc
    | succ j => simp at hy
  have ho1 : ∀ y ∈ ([u] : List Value), y.oneCell' = true := by intro y hy; rw [List.mem_singleton.1 hy]; exact hu.one
  obtain ⟨v', w', r, k2, k3, _⟩ := run_append_own (P := Tryd.prog) w B 22 o.type 55 i0 (.slice none 0 0) 1 24 Tryd.underlying22 hi hz0 hz1 hz2 rfl (by decide) v pl.length vals hr.out ⟨g, 0, none⟩ 1 1 [u] (by simp) hn ho1 (by unfold maxLen; omega) (by omega) hB
  have hbel : Below B w w' := (Below.refl B w).grown k3 hB fun k hk => (World.ownsRow.lt hr.out k hk).1
  refine wpList_plain hgd fun K hK => ?_
  unfold Oper.wp execOp
  simp only [ho, resolve, invoke, builtin, Sem.run_bind, Sem.run_pure, Result.andThen_ok, List.map_toArray, List.map_cons, List.map_nil, hs, hx, r]
  refine hK _ _ (h v' w' ⟨vals ++ [u], ?_, fun j hj => ?_, fun i j hij hj => ?_, fun j k hj hk => ?_⟩ hbel k3)
  · rw [List.length_append]; exact k2
  · have kp : ∀ {y : Value} {xs : List Int}, Ow w B y xs → Ow w' B y xs := fun q => q.kept k3 (own_ne hr.out q (by decide))
    rw [List.length_append, List.length_singleton] at hj
    by_cases e : j < pl.length
    · rw [getD_app_lt _ _ _ (by omega)]
      have := kp (hr.row j e)
      unfold rowL at this ⊢
      rw [getD_app_lt _ _ _ e]; exact this
    · obtain rfl : j = pl.length := by omega
      rw [getD_app_ge _ _ _ (by omega), hl, Nat.sub_self]
      unfold rowL
      rw [getD_app_ge _ _ _ (Nat.le_refl _), Nat.sub_self]
      exact kp hu
  · rw [List.length_append, List.length_singleton] at hj
    rw [getD_app_lt _ _ _ (by omega)]
    by_cases e : j < pl.length
    · rw [getD_app_lt _ _ _ (by omega)]; exact hr.sep i j hij e
    · obtain rfl : j = pl.length := by omega
      rw [getD_app_ge vals _ _ (by omega), hl, Nat.sub_self]
      cases eb : (vals.getD i undef).ownBlock with
      | none => exact .inl rfl
      | some k =>
        have h1 := hr.low i k hij eb
        exact .inr fun e2 => by have := hD k e2.symm; omega
  · rw [List.length_append, List.length_singleton] at hj
    by_cases e : j < pl.length
    · rw [getD_app_lt _ _ _ (by omega)] at hk
      have := (World.ownsRow.lt (hr.row j e) k hk).2
      have := k3.size
      omega
    · obtain rfl : j = pl.length := by omega
      rw [getD_app_ge _ _ _ (by omega), hl, Nat.sub_self] at hk
      have := (World.ownsRow.lt hu k hk).2
      have := k3.size
      omega
theorem Ow.own_lo {w : World} {B : Nat} {v : Value} {ys : List Int} (h : Ow w B v ys) : ∀ k, v.ownBlock = some k → B ≤ k := fun k hk => (World.ownsRow.lt h k hk).1
theorem Owa.out_lt {w : World} {B D : Nat} {v : Value} {pl : List (List Int)} (h : Owa w B D v pl) : ∀ k, v.ownBlock = some k → k < w.heap.size := fun k hk => by
  obtain ⟨vals, h⟩ := h
  exact (World.ownsRow.lt h.out k hk).2
theorem results_twob {P : Program} {fn : Func} {p q : Tmp} {ty : TypeId} (h : fn.results = #[.cell p ty, .tmp q]) (tmps : Array Value) (w : World) (g : Nat) (x y : Value) (fs : Array Field)
    (hp : tmps.getD p undef = .pointer (some ⟨g, 0, none⟩)) (c0 : w.cell? ⟨g, 0, none⟩ = some x) (c1 : w.cell? ⟨g, 1, none⟩ = some y)
    (hu : P.underlying ty = some (.struct fs)) (hi : (P.info? ty).map (·.size) = some 2) (b : Value) (hq : tmps.getD q undef = b) :
    (results fn tmps).run P w = .ok (.tuple #[.agg #[x, y], b]) w := by
  have hp' : tmps[p]?.getD undef = .pointer (some ⟨g, 0, none⟩) := by simpa using hp
  have hq' : tmps[q]?.getD undef = b := by simpa using hq
  have hl := run_loadVar_part (P := P) w g 0 ty #[x, y] (.struct fs) (fun j v hv => by
    match j, hv with
    | 0, hv => simp at hv; subst hv; simpa using c0
    | 1, hv => simp at hv; subst hv; simpa using c1) hu rfl (by simpa using hi)
  simp [results, h, hp', hq', asAddr, hl]

theorem owa_empty (w : World) (D : Nat) : Owa (w.alloc (.cells #[] 55)) w.heap.size D (.slice (some ⟨w.heap.size, 0, none⟩) 0 0) [] :=
  ⟨[], World.ownsRow_made w #[] 0 (Nat.le_refl _) (by unfold maxLen; omega) rfl, fun j h => by simp at h, fun i j _ h => by simp at h, fun j k h => by simp at h⟩
theorem Owa.ne_words {w : World} {g B D : Nat} {l : List UInt8} {v : Value} {pl : List (List Int)} (h : w.heap[g]? = some (C.wordsO l)) (ho : Owa w B D v pl) : some g ≠ v.ownBlock := by
  obtain ⟨vals, ho⟩ := ho
  rcases ho.out.2 with ⟨rfl, _⟩ | ⟨gv, cap, cur, rfl, _, hh, _⟩
  · simp [Value.ownBlock]
  · intro e
    have e2 : g = gv := by simpa [Value.ownBlock] using e
    subst e2
    rw [h] at hh
    simp [C.wordsO] at hh
theorem cut_any (l : List UInt8) (w : World) (hl : l.length ≤ 1073741824) (hE : Env w) :
    Calls Tryd.prog 35 #[.string (bstr l), .string ⟨#[35]⟩] w fun e w' => ∃ b, e = .returned (.tuple #[.string (bstr (Lib.cut l [35]).1), .string (bstr (Lib.cut l [35]).2.1), .bool b]) ∧ Below w.heap.size w w' := by
  obtain ⟨m, hm⟩ := hE.max
  refine (Tryd.strings_Cut (bstr l) ⟨#[35]⟩ m w (by rw [bstr_size]; omega) hm).mono ?_
  rintro e w' ⟨rfl, n, rfl⟩
  rw [bstr_data]
  exact ⟨_, rfl, below_drewN (Below.refl _ _) n⟩
end Go.Proofs.YtgojlabkngnkdaaDoor

namespace Go.Proofs.YtgojlabkngnkdaaDoor
open Go.RowKit

set_option maxHeartbeats 8000000 in
set_option maxRecDepth 20000 in
theorem parseLs_any (b : List UInt8) (w : World) (hl : b.length ≤ 1048576) (hE : Env w) :
    Calls Tryd.prog 37 #[.string (bstr b)] w fun e w' => Below w.heap.size w w' ∧
      ((∃ L u, e = .returned (.tuple #[u, .bool true]) ∧ Owa w' w.heap.size w'.heap.size u L ∧ LsIs b L) ∨
       (e = .returned (.tuple #[.slice none 0 0, .bool false]) ∧ ∃ (k : Nat) (wd : List UInt8), b ≠ [] ∧ (C.splitW b)[k]? = some wd ∧ wd ≠ [45] ∧ ∀ V, P.AtTo wd (P.splitW wd).length V → itG 46 V ≠ wd)) := by
  have hsz := bstr_size b
  have hbl := bstr_list b
  obtain ⟨s, es⟩ : ∃ s, bstr b = s := ⟨_, rfl⟩
  have ES := Lib.hid es
  rw [es] at hsz hbl ⊢
  clear es
  by_cases h0 : b = []
  · rw [h0] at hbl
    have hem : s.toList.isEmpty = true := by rw [hbl]; rfl
    have H0 := Lib.hid h0
    clear hbl hE hl hsz h0
    go_enter Tryd.func37, Tryd.ntmps37
    go_wp2_with fail
    go_ret2
    exact ⟨Below.refl _ _, .inl ⟨[], _, rfl, Owa.nil _ _ _, .inl ⟨H0.out, rfl⟩⟩⟩
  have hem : s.toList.isEmpty = false := by
    rw [hbl]
    cases b with
    | nil => exact absurd rfl h0
    | cons a t => rfl
  obtain ⟨W, eW⟩ : ∃ W, w.alloc (.cells #[] 55) = W := ⟨_, rfl⟩
  have hb0 : Below w.heap.size w W := by rw [← eW]; exact (Below.refl _ _).alloc (Nat.le_refl _) _
  have ho0 : Owa W w.heap.size W.heap.size (.slice (some ⟨w.heap.size, 0, none⟩) 0 0) [] := by rw [← eW]; exact owa_empty w _
  obtain ⟨n, en⟩ : ∃ n, (C.splitW b).length = n := ⟨_, rfl⟩
  have EN := Lib.hid en
  have hn2 : n ≤ 1048577 := by have := C.splitW_len b; omega
  have SP := Lib.hid (split_rowG b (by omega) W (hE.below hb0 (Nat.le_refl _)))
  rw [ES.out, en] at SP
  have HE := Lib.hid hE
  have H0 := Lib.hid h0
  have EW := Lib.hid eW
  clear h0 en hE hbl eW
  go_enter Tryd.func37, Tryd.ntmps37
  go_wp2_with fail
  rw [EW.out]
  clear EW
  refine SP.out.mono ?_
  rintro e w2 ⟨gw, rfl, HOW, hgw, b2⟩
  clear SP
  have hb2 := nxt hb0 b2
  have ho2 := Lib.hid ((ho0.below b2 (Nat.le_refl _)).mono (Nat.le_refl _) b2.size)
  clear b2 hb0 ho0
  go_wp2_with fail
  go_loopw [4, 15] (fun v i wr => ∃ (k : Nat) (L : List (List Int)), k ≤ n ∧ i = .int .i64 k ∧ wr.heap[gw]? = some (C.wordsO b) ∧ Hid (Owa wr w.heap.size wr.heap.size v L) ∧ Hid (RsIs b k L) ∧ Below w.heap.size w wr) (fun _ i _ => n - (intOf i).toNat)
  case atStart => exact ⟨0, [], Nat.zero_le _, rfl, HOW, ho2, Lib.hid (RsIs.zero b), hb2⟩
  case round =>
    clear HOW ho2 hb2
    obtain ⟨k, L, hk, rfl, hW, HO, HRS, hb⟩ := hrel
    have HLL := Lib.hid HRS.out.1
    by_cases hlt : k < n
    · have hw : (C.splitW b)[k]? = some ((C.splitW b)[k]'(by rw [EN.out]; exact hlt)) := List.getElem?_eq_getElem _
      obtain ⟨wd, ewd⟩ : ∃ wd, (C.splitW b)[k]'(by rw [EN.out]; exact hlt) = wd := ⟨_, rfl⟩
      rw [ewd] at hw
      have hwl : wd.length ≤ 1048576 := by have := C.splitW_mem_len b wd (List.mem_of_getElem? hw); omega
      have hcell := C.words_cell hW hw
      have hwb := bstr_list wd
      have PN0 := P.parseN_any wd wr hwl (HE.out.below hb (Nat.le_refl _))
      obtain ⟨sw, esw⟩ : ∃ sw, bstr wd = sw := ⟨_, rfl⟩
      rw [esw] at hcell PN0 hwb
      have PN := Lib.hid PN0
      have HW := Lib.hid hw
      have HWr := Lib.hid hW
      have HNW := Lib.hid (HO.out.ne_words hW)
      have hz := hb.size
      obtain ⟨pv, cv, rfl⟩ := HO.out.form
      clear PN0 hw ewd hwl esw hW
      by_cases hd : wd = [45]
      · have hq : (sw.toList == [45]) = true := by rw [hwb, hd]; rfl
        have HD := Lib.hid hd
        clear hd hwb PN
        go_wp2_with (at_builtin; refine wpList_append_row1 rfl _ _ rfl w.heap.size wr.heap.size _ L rfl (HO.out.below ((Below.refl _ _).alloc (Nat.le_refl _) _) (Nat.le_refl _)) wr.heap.size (.slice none 0 0) [] rfl (by simp) (World.ownsRow_nil _ _ _ _) (fun k hk => by cases hk) (by have := HLL.out; omega) (by simp; omega) ?_; intro v3 w3 o3 b3 g3; have W3 := (g3.block gw (by simp; have := box_lt HWr.out; omega) HNW.out).trans ((heap_alloc_old _ _ (box_lt HWr.out)).trans HWr.out); have O3 := Lib.hid o3; have B3 : Below w.heap.size w w3 := (hb.trans ((Below.refl wr.heap.size wr).alloc (Nat.le_refl _) _ |>.mono hz)).trans b3; clear o3 b3 g3)
        go_roundw
        case rel => exact ⟨k + 1, _, by omega, by go_num, W3, O3, Lib.hid (HRS.out.snoc HW.out (.inl ⟨HD.out, rfl⟩)), B3⟩
        case measure => simp [intOf]; omega
      · have hq : (sw.toList == [45]) = false := by rw [hwb, beq_eq_false_iff_ne]; exact hd
        have HD := Lib.hid hd
        clear hd hwb
        go_wp2_with fail
        clear hcell
        refine PN.out.mono ?_
        rintro e w2' ⟨b2', ⟨V, u3, rfl, o2, hV, ht⟩ | ⟨rfl, hno⟩⟩
        · have HRI := Lib.hid (HRS.out.snoc HW.out (.inr ⟨HD.out, hV, ht⟩))
          have W2 := (b2'.block _ (box_lt HWr.out)).trans HWr.out
          have O2 := Lib.hid (HO.out.below b2' (Nat.le_refl _))
          have V2 := Lib.hid o2
          have B2 := nxt hb b2'
          have z2 := b2'.size
          obtain ⟨pu, cu, rfl⟩ := o2.sv.form
          have HW2 := Lib.hid W2
          clear hV ht o2 PN HWr HO b2' W2
          go_wp2_with (at_builtin; refine wpList_append_row1 rfl _ _ rfl w.heap.size wr.heap.size _ L rfl (O2.out.below ((Below.refl _ _).alloc (Nat.le_refl _) _) (Nat.le_refl _)) w2'.heap.size (.slice pu V.length cu) V rfl (by simp) ((V2.out.below ((Below.refl _ _).alloc (Nat.le_refl _) _) (Nat.le_refl _)).mono hz) (fun k hk => V2.out.own_lo k hk) (by have := HLL.out; omega) (by simp; omega) ?_; intro v3 w3 o3 b3 g3; have W3 := (g3.block gw (by simp; have := box_lt HW2.out; omega) HNW.out).trans ((heap_alloc_old _ _ (box_lt HW2.out)).trans HW2.out); have O3 := Lib.hid o3; have B3 : Below w.heap.size w w3 := (B2.trans ((Below.refl w2'.heap.size w2').alloc (Nat.le_refl _) _ |>.mono (by omega))).trans b3; clear o3 b3 g3)
          go_roundw
          case rel => exact ⟨k + 1, _, by omega, by go_num, W3, O3, HRI, B3⟩
          case measure => simp [intOf]; omega
        · have B2 := nxt hb b2'
          have HNO := Lib.hid hno
          clear hno PN
          go_wp2_with fail
          go_ret2
          exact ⟨B2, .inr ⟨rfl, k, wd, H0.out, HW.out, HD.out, HNO.out⟩⟩
    · obtain rfl : k = n := by omega
      go_wp2_with fail
      go_ret2
      exact ⟨hb, .inl ⟨L, _, rfl, HO.out, .inr ⟨H0.out, by rw [EN.out]; exact HRS.out⟩⟩⟩

set_option maxHeartbeats 8000000 in
set_option maxRecDepth 20000 in
theorem implParseCards_any (l : List UInt8) (w : World) (hl : l.length ≤ 1048576) (hE : Env w) :
    Calls Tryd.prog 13 #[.string (bstr l)] w fun e w' => ∃ u, e = .returned (.tuple #[.agg #[.int .i64 (pcN l), u], .bool (ckB l)]) ∧ Owa w' w.heap.size w'.heap.size u (pcL l) ∧ Below w.heap.size w w' := by
  obtain ⟨W, eW⟩ : ∃ W, w.alloc (.cells #[.int .i64 0, .slice none 0 0] 28) = W := ⟨_, rfl⟩
  have hb0 : Below w.heap.size w W := by rw [← eW]; exact (Below.refl _ _).alloc (Nat.le_refl _) _
  have ZW : W.heap.size = w.heap.size + 1 := by rw [← eW]; simp
  have HR := Lib.hid (show W.heap[w.heap.size]? = some (.cells #[.int .i64 0, .slice none 0 0] 28 (0, 0)) by rw [← eW]; exact heap_alloc_new w _)
  have HC := Lib.hid (cut_any l W (by omega) (hE.below hb0 (Nat.le_refl _)))
  have HE := Lib.hid (fun W' (h : Below w.heap.size w W') => hE.below h (Nat.le_refl _))
  have hcl := cut_len l
  obtain ⟨s, es⟩ : ∃ s, bstr l = s := ⟨_, rfl⟩
  have ES := Lib.hid es
  rw [es] at HC ⊢
  clear es hE
  obtain ⟨fr, efr⟩ : ∃ x, (Lib.cut l [35]).1 = x := ⟨_, rfl⟩
  obtain ⟨bh, ebh⟩ : ∃ x, (Lib.cut l [35]).2.1 = x := ⟨_, rfl⟩
  have EF := Lib.hid efr
  have EB := Lib.hid ebh
  rw [efr, ebh] at HC hcl
  clear efr ebh
  have hfl := hcl.1
  have hbl2 := hcl.2
  clear hcl
  rcases Classical.em (∃ x, Lib.atoiAll fr = .ok x) with ⟨n, hat⟩ | hat
  · have AT := fun W' => Lib.hid (atoi_ok fr (by omega) n hat W')
    have PL := fun W' (h : Below w.heap.size w W') => Lib.hid (parseLs_any bh W' (by omega) (HE.out W' h))
    obtain ⟨F, eF⟩ : ∃ F, bstr fr = F := ⟨_, rfl⟩
    obtain ⟨G, eG⟩ : ∃ G, bstr bh = G := ⟨_, rfl⟩
    rw [eF] at AT HC
    rw [eG] at PL HC
    have HN := Lib.hid hat
    clear eF eG hat
    go_enter Tryd.func13, Tryd.ntmps13
    go_wp2_with fail
    clear eW
    refine HC.out.mono ?_
    rintro e w1 ⟨bb, rfl, b1⟩
    have hb1 := nxt hb0 b1
    have z1 := b1.size
    have R1 := Lib.hid ((b1.block _ (by omega)).trans HR.out)
    clear b1 HR HC
    go_wp2_with fail
    refine (AT _).out.mono ?_
    rintro e w2 ⟨rfl, b2⟩
    have hb2 := nxt hb1 b2
    have z2 := b2.size
    have R2 := Lib.hid ((b2.block _ (by omega)).trans R1.out)
    clear b2 R1
    go_wp2_with fail
    refine (PL _ hb2).out.mono ?_
    rintro e w3 ⟨b3, ⟨L, u, rfl, o3, hL⟩ | ⟨rfl, hno⟩⟩
    · obtain ⟨pu, cu, rfl⟩ := o3.form
      have z3 := b3.size
      have hb3 := nxt hb2 b3
      have R3 := Lib.hid ((b3.block _ (by omega)).trans R2.out)
      obtain ⟨W3, eW3⟩ : ∃ x, w3.alloc (.cells #[.int .i64 n, .slice pu L.length cu] 28) = x := ⟨_, rfl⟩
      have b4 : Below w3.heap.size w3 W3 := by rw [← eW3]; exact (Below.refl _ _).alloc (Nat.le_refl _) _
      have d0 : W3.cell? ⟨w3.heap.size, 0, none⟩ = some (.int .i64 n) := by rw [← eW3]; exact card_n w3 n _
      have d1 : W3.cell? ⟨w3.heap.size, 1, none⟩ = some (.slice pu L.length cu) := by rw [← eW3]; exact card_v w3 n _
      have zW3 : W3.heap.size = w3.heap.size + 1 := by rw [← eW3]; simp
      have R4 := Lib.hid ((b4.block _ (by omega)).trans R3.out)
      have O4 := Lib.hid (o3.below b4 (Nat.le_refl _))
      have hb4 := nxt hb3 b4
      have HLs : Hid (LsIs (Lib.cut l [35]).2.1 L) := Lib.hid (by rw [EB.out]; exact hL)
      have HN2 : Hid (Lib.atoiAll (Lib.cut l [35]).1 = .ok n) := Lib.hid (by rw [EF.out]; exact HN.out)
      have hLL := ls_len hL (by omega)
      have CT0 := implCT_any n (.slice pu L.length cu) L W3 O4.out.svv (by omega) (fun j hj => by have := hLL.2 j hj; omega) (HE.out _ hb4).ten
      clear b3 b4 R2 R3 o3 hL hLL PL AT
      by_cases hg : caB n L = true
      · rw [ctA_good hg, hg] at CT0
        by_cases ht : txtC n L = l
        · have N := Lib.hid (pc_of hg ht)
          have hq : ((bstr (txtC n L)).toList == s.toList) = true := by rw [ht, ES.out]; simp
          obtain ⟨D, eD⟩ : ∃ D, bstr (txtC n L) = D := ⟨_, rfl⟩
          rw [eD] at CT0 hq
          have CT := Lib.hid CT0
          clear CT0 hg ht eD
          go_wp2_with fail
          clear eW3
          refine CT.out.mono ?_
          rintro e w5 ⟨rfl, b5⟩
          have e0 := (b5.cell (p := ⟨w3.heap.size, 0, none⟩) (by show w3.heap.size < W3.heap.size; omega)).trans d0
          have e1 := (b5.cell (p := ⟨w3.heap.size, 1, none⟩) (by show w3.heap.size < W3.heap.size; omega)).trans d1
          have hb5 := nxt hb4 b5
          have z5 := b5.size
          obtain ⟨c10, c11, f10, f11⟩ := cells2_of ((b5.block w.heap.size (by omega)).trans R4.out)
          have O5 := Lib.hid (O4.out.below b5 (Nat.le_refl _))
          clear b5 d0 d1
          go_wp2_with fail
          obtain ⟨fs, hfs⟩ := Tryd.cardU
          rw [N.out.1, N.out.2.1, N.out.2.2]
          refine bodyPost_ret (v := .tuple #[.agg #[.int .i64 n, .slice pu L.length cu], .bool true]) (results_twob rfl _ _ w.heap.size _ _ fs rfl ?_ ?_ hfs Tryd.cardI _ rfl) rfl ⟨_, rfl, (O5.out.abv (((Abv.refl _ _).setCell (g := w.heap.size) (by omega) 0 _).setCell (g := w.heap.size) (by omega) 1 _)).mono (by omega) (by simp [World.setCell]; omega), (hb5.setCell (p := ⟨w.heap.size, 0, none⟩) (Nat.le_refl _) _).setCell (p := ⟨w.heap.size, 1, none⟩) (Nat.le_refl _) _⟩
          · simp [World.cell?_setCell_other, World.cell?_setCell_same, go_sem, c10]
          · simp [World.cell?_setCell_other, World.cell?_setCell_same, go_sem, c11]
        · have N := Lib.hid (pc_read HN2.out HLs.out fun q => ht q.2)
          have hq : ((bstr (txtC n L)).toList == s.toList) = false := by rw [← ES.out, bstr_list, bstr_list, beq_eq_false_iff_ne]; exact ht
          obtain ⟨D, eD⟩ : ∃ D, bstr (txtC n L) = D := ⟨_, rfl⟩
          rw [eD] at CT0 hq
          have CT := Lib.hid CT0
          clear CT0 hg ht eD
          go_wp2_with fail
          clear eW3
          refine CT.out.mono ?_
          rintro e w5 ⟨rfl, b5⟩
          have hb5 := nxt hb4 b5
          obtain ⟨c10, c11, f10, f11⟩ := cells2_of ((b5.block w.heap.size (by omega)).trans R4.out)
          clear b5 d0 d1
          go_wp2_with fail
          obtain ⟨fs, hfs⟩ := Tryd.cardU
          rw [N.out.1, N.out.2.1, N.out.2.2]
          refine bodyPost_ret (v := .tuple #[.agg #[.int .i64 0, .slice none 0 0], .bool false]) (results_twob rfl _ _ w.heap.size _ _ fs rfl ?_ ?_ hfs Tryd.cardI _ rfl) rfl ⟨_, rfl, Owa.nil _ _ _, (hb5.setCell (p := ⟨w.heap.size, 0, none⟩) (Nat.le_refl _) _).setCell (p := ⟨w.heap.size, 1, none⟩) (Nat.le_refl _) _⟩
          · simp [World.cell?_setCell_other, World.cell?_setCell_same, go_sem, c10]
          · simp [World.cell?_setCell_other, World.cell?_setCell_same, go_sem, c11]
      · have N := Lib.hid (pc_read HN2.out HLs.out fun q => hg q.1)
        have hg2 : caB n L = false := by simpa using hg
        rw [ctA_bad hg2, hg2] at CT0
        have CT := Lib.hid CT0
        clear CT0 hg hg2
        go_wp2_with fail
        clear eW3
        refine CT.out.mono ?_
        rintro e w5 ⟨rfl, b5⟩
        have hb5 := nxt hb4 b5
        obtain ⟨c10, c11, f10, f11⟩ := cells2_of ((b5.block w.heap.size (by omega)).trans R4.out)
        clear b5 d0 d1
        go_wp2_with fail
        obtain ⟨fs, hfs⟩ := Tryd.cardU
        rw [N.out.1, N.out.2.1, N.out.2.2]
        refine bodyPost_ret (v := .tuple #[.agg #[.int .i64 0, .slice none 0 0], .bool false]) (results_twob rfl _ _ w.heap.size _ _ fs rfl ?_ ?_ hfs Tryd.cardI _ rfl) rfl ⟨_, rfl, Owa.nil _ _ _, (hb5.setCell (p := ⟨w.heap.size, 0, none⟩) (Nat.le_refl _) _).setCell (p := ⟨w.heap.size, 1, none⟩) (Nat.le_refl _) _⟩
        · simp [World.cell?_setCell_other, World.cell?_setCell_same, go_sem, c10]
        · simp [World.cell?_setCell_other, World.cell?_setCell_same, go_sem, c11]
    · have N : Hid (ckB l = false ∧ pcN l = 0 ∧ pcL l = []) := Lib.hid (by
        obtain ⟨k, wd, h1, h2, h3, h4⟩ := hno
        rw [← EB.out] at h1 h2
        exact pc_lists h1 h2 h3 h4)
      have hb5 := nxt hb2 b3
      obtain ⟨c10, c11, f10, f11⟩ := cells2_of ((b3.block w.heap.size (by omega)).trans R2.out)
      clear b3 hno PL AT
      go_wp2_with fail
      obtain ⟨fs, hfs⟩ := Tryd.cardU
      rw [N.out.1, N.out.2.1, N.out.2.2]
      refine bodyPost_ret (v := .tuple #[.agg #[.int .i64 0, .slice none 0 0], .bool false]) (results_twob rfl _ _ w.heap.size _ _ fs rfl ?_ ?_ hfs Tryd.cardI _ rfl) rfl ⟨_, rfl, Owa.nil _ _ _, (hb5.setCell (p := ⟨w.heap.size, 0, none⟩) (Nat.le_refl _) _).setCell (p := ⟨w.heap.size, 1, none⟩) (Nat.le_refl _) _⟩
      · simp [World.cell?_setCell_other, World.cell?_setCell_same, go_sem, c10]
      · simp [World.cell?_setCell_other, World.cell?_setCell_same, go_sem, c11]
  · have N : Hid (ckB l = false ∧ pcN l = 0 ∧ pcL l = []) := Lib.hid (pc_front (by rw [EF.out]; exact fun x hx => hat ⟨x, hx⟩))
    have AT := fun W' (h : Below w.heap.size w W') => Lib.hid (atoi_bad fr (by omega) (fun x hx => hat ⟨x, hx⟩) W' (HE.out W' h))
    obtain ⟨F, eF⟩ : ∃ F, bstr fr = F := ⟨_, rfl⟩
    obtain ⟨G, eG⟩ : ∃ G, bstr bh = G := ⟨_, rfl⟩
    rw [eF] at AT HC
    rw [eG] at HC
    clear eF eG hat
    go_enter Tryd.func13, Tryd.ntmps13
    go_wp2_with fail
    clear eW
    refine HC.out.mono ?_
    rintro e w1 ⟨bb, rfl, b1⟩
    have hb1 := nxt hb0 b1
    have z1 := b1.size
    have R1 := Lib.hid ((b1.block _ (by omega)).trans HR.out)
    clear b1 HR HC
    go_wp2_with fail
    refine (AT _ hb1).out.mono ?_
    rintro e w2 ⟨x, N0, rfl, b2⟩
    have hb5 := nxt hb1 b2
    obtain ⟨c10, c11, f10, f11⟩ := cells2_of ((b2.block w.heap.size (by omega)).trans R1.out)
    clear b2 AT
    go_wp2_with fail
    obtain ⟨fs, hfs⟩ := Tryd.cardU
    rw [N.out.1, N.out.2.1, N.out.2.2]
    refine bodyPost_ret (v := .tuple #[.agg #[.int .i64 0, .slice none 0 0], .bool false]) (results_twob rfl _ _ w.heap.size _ _ fs rfl ?_ ?_ hfs Tryd.cardI _ rfl) rfl ⟨_, rfl, Owa.nil _ _ _, (hb5.setCell (p := ⟨w.heap.size, 0, none⟩) (Nat.le_refl _) _).setCell (p := ⟨w.heap.size, 1, none⟩) (Nat.le_refl _) _⟩
    · simp [World.cell?_setCell_other, World.cell?_setCell_same, go_sem, c10]
    · simp [World.cell?_setCell_other, World.cell?_setCell_same, go_sem, c11]
end Go.Proofs.YtgojlabkngnkdaaDoor

namespace Go.Proofs.YtgojlabkngnkdaaDoor
open Go.RowKit

theorem marks_len (k : Int) (n : Nat) : (marks k n).length = n := by simp [marks]
theorem marks_at (k : Int) (n j : Nat) (h : j < n) : (marks k n).getD j 0 = k + j := by simp [marks, List.getD, h]
theorem tot_mono (pl : List (List Int)) : ∀ n k, k ≤ n → tot pl k ≤ tot pl n := by
  intro n
  induction n with
  | zero => intro k h; have : k = 0 := by omega
            subst this; omega
  | succ n ih =>
    intro k h
    by_cases e : k = n + 1
    · subst e; omega
    · have := ih k (by omega); simp only [tot]; omega
set_option maxHeartbeats 4000000 in
theorem MarkTo.done {zs : List Int} {k : Int} {n j : Nat} (h : MarkTo zs k n j) (hj : ¬ j < n) : zs = marks k n := by
  obtain ⟨h1, h2⟩ := h
  apply List.ext_getElem?
  intro i
  by_cases hi : i < n
  · have := h2 i (by omega)
    rw [List.getD_eq_getElem?_getD] at this
    rw [List.getElem?_eq_getElem (by omega)] at this ⊢
    simp at this
    simp [marks, hi, this]
  · rw [List.getElem?_eq_none (by omega), List.getElem?_eq_none (by rw [marks_len]; omega)]
set_option maxHeartbeats 4000000 in
theorem Ow.frozenAt {w : World} {B g n cap : Nat} {zs : List Int} (h : Ow w B (.slice (some ⟨g, 0, none⟩) n cap) zs) (hn : zs.length = n) (j : Nat) : w.frozen? ⟨g, j, none⟩ = false := by
  subst hn
  exact World.ownsRow.frozenAt h j
set_option maxHeartbeats 4000000 in
theorem markIntS_any (v : Value) (ys : List Int) (B : Nat) (k : Int) (w : World) (h : Ow w B v ys) (hl : ys.length ≤ 1099511627776) (hk0 : 0 ≤ k) (hk1 : k ≤ 1099511627776) :
    Calls Tryd.prog 68 #[v, .int .i64 k] w fun e w' => e = .returned (.int .i64 (k + ys.length)) ∧ Ow w' B v (marks k ys.length) ∧ w.grownBy w' v.ownBlock := by
  rcases h.form with ⟨rfl, rfl⟩ | ⟨g, cap, rfl, hBg, hgs⟩
  · go_enter Tryd.func68, Tryd.ntmps68
    go_wp2
    refine wp_loop_rounds 1 ?_
    rw [rounds_succ]
    go_wp2
    go_ret
    exact ⟨ret_int (by simp), h, grown_refl _ _⟩
  · obtain ⟨n, en⟩ : ∃ n, ys.length = n := ⟨_, rfl⟩
    rw [en] at hl
    rw [en] at h ⊢
    go_enter Tryd.func68, Tryd.ntmps68
    have EN := Lib.hid en
    clear en
    go_wp2
    go_loopw [1, 5] (fun t i wr => ∃ (j : Nat) (zs : List Int), j ≤ n ∧ i = .int .i64 j ∧ t = .int .i64 (k + j) ∧ MarkTo zs k n j ∧ Ow wr B (.slice (some ⟨g, 0, none⟩) n cap) zs ∧ w.grownBy wr (some g)) (fun _ i _ => n - (intOf i).toNat)
    case atStart => exact ⟨0, ys, Nat.zero_le _, rfl, by simp, MarkTo.zero EN.out, h, grown_refl _ _⟩
    case round =>
      obtain ⟨j, zs, hj, rfl, rfl, hm, ho, hgr⟩ := hrel
      by_cases hlt : j < n
      · have c1 := ho.cellAt hm.1 hlt
        have f1 := ho.frozenAt hm.1 j
        obtain ⟨x, ex⟩ : ∃ x, zs.getD j 0 = x := ⟨_, rfl⟩
        rw [ex] at c1
        clear ex
        go_wp2
        go_roundw
        case rel =>
          have R := ho.set hm.1 j (k + j)
          exact ⟨j + 1, zs.set j (k + j), by omega, by go_num, by go_num, hm.set hlt, R.1, grown_trans hgr R.2⟩
        case measure => simp [intOf]; omega
      · go_wp2
        go_ret
        have hz := hm.done hlt
        subst hz
        exact ⟨ret_int (by omega), ho, hgr⟩
set_option maxHeartbeats 4000000 in
theorem heldIntS_any (v : Value) (n : Nat) (k : Int) (w : World) (h : Sv w v (marks k n)) (hl : n ≤ 1099511627776) (hk0 : 0 ≤ k) (hk1 : k ≤ 1099511627776) :
    Calls Tryd.prog 69 #[v, .int .i64 k] w fun e w' => e = .returned (.int .i64 (k + n)) ∧ w = w' := by
  obtain ⟨p, cap, rfl, hx⟩ := h
  rw [marks_len] at hx ⊢
  go_enter Tryd.func69, Tryd.ntmps69
  go_wp2
  go_loop [1, 5] (fun t i => ∃ j : Nat, j ≤ n ∧ i = .int .i64 j ∧ t = .int .i64 (k + j)) (fun _ i => n - (intOf i).toNat)
  case atStart => exact ⟨0, Nat.zero_le _, rfl, by simp⟩
  case round =>
    obtain ⟨j, hj, rfl, rfl⟩ := hrel
    by_cases hlt : j < n
    · obtain ⟨b, off, rfl, hbl, hc⟩ := hx (by omega)
      have c1 := hc j hlt
      rw [marks_at k n j hlt] at c1
      clear hc hx
      go_wp2
      go_round
      case rel => exact ⟨j + 1, by omega, by go_num, by go_num⟩
      case measure => simp [intOf]; omega
    · clear hx
      go_wp2
      go_ret
      exact ⟨ret_int (by omega), rfl⟩
def markL (k : Int) (pl : List (List Int)) : List (List Int) := (List.range pl.length).map fun (j : Nat) => marks (k + tot pl j) (rowL pl j).length
theorem markL_len (k : Int) (pl : List (List Int)) : (markL k pl).length = pl.length := by simp [markL]
theorem markL_row (k : Int) (pl : List (List Int)) {j : Nat} (h : j < pl.length) : rowL (markL k pl) j = marks (k + tot pl j) (rowL pl j).length := by
  unfold rowL markL
  rw [List.getD_eq_getElem?_getD, List.getElem?_map, List.getElem?_range h]; rfl
theorem tot_up (pl : List (List Int)) : ∀ n k, k ≤ n → tot pl k ≤ tot pl n := by
  intro n
  induction n with
  | zero => intro k h; have : k = 0 := by omega
            subst this; omega
  | succ n ih =>
    intro k h
    by_cases e : k = n + 1
    · subst e; omega
    · have := ih k (by omega); simp only [tot]; omega
theorem tot_row (pl : List (List Int)) {n k : Nat} (h : k < n) : (rowL pl k).length ≤ tot pl n := by
  have := tot_up pl n (k + 1) h
  simp only [tot] at this
  omega
theorem mid_grown {C D B : Nat} {w w1 w2 : World} {u : Value} {ys : List Int} (h : Mid C D w w1) (k : w1.grownBy w2 u.ownBlock) (o : Ow w1 B u ys) (hD : ∀ q, u.ownBlock = some q → q < D) (hB : C ≤ B := by exact Nat.le_refl _) : Mid C D w w2 := by
  cases e : u.ownBlock with
  | none =>
    rw [e] at k
    exact ⟨k.os.trans h.os, k.tape.trans h.tape, k.output.trans h.output, Nat.le_trans h.size k.size, fun i hi hn => (k.block i (Nat.lt_of_lt_of_le hi h.size) (by simp)).trans (h.block i hi hn)⟩
  | some q =>
    rw [e] at k
    exact h.grown k (Nat.le_trans hB (World.ownsRow.lt o q e).1) (hD q e)
set_option maxHeartbeats 8000000 in
theorem markIntSS_own (v : Value) (pl : List (List Int)) (B D : Nat) (k : Int) (w : World) (h : Owa w B D v pl) (hn : pl.length ≤ 1048576) (hf : tot pl pl.length ≤ 1048576) (hk0 : 0 ≤ k) (hk1 : k ≤ 1048577) :
    Calls Tryd.prog 38 #[v, .int .i64 k] w fun e w' => e = .returned (.int .i64 (k + tot pl pl.length)) ∧ Owa w' B D v (markL k pl) ∧ Mid B D w w' := by
  obtain ⟨vals, h⟩ := h
  have hform : (v = .slice none 0 0 ∧ pl.length = 0) ∨ ∃ g cap, v = .slice (some ⟨g, 0, none⟩) pl.length cap ∧ g < w.heap.size ∧ B ≤ g := by
    rcases h.out.2 with ⟨e, e0⟩ | ⟨g, cap, cur, e, hg, hh, _⟩
    · exact .inl ⟨e, e0⟩
    · exact .inr ⟨g, cap, e, (Array.getElem?_eq_some_iff.1 hh).1, hg⟩
  have hlv : vals.length = pl.length := by have := h.out.1; omega
  have HO := h.out
  rcases hform with ⟨rfl, e0⟩ | ⟨g, cap, rfl, hg, hBg⟩
  · have e1 : pl = [] := List.length_eq_zero_iff.1 e0
    subst e1
    go_enter Tryd.func38, Tryd.ntmps38
    go_wp2
    refine wp_loop_rounds 1 ?_
    rw [rounds_succ]
    go_wp2
    go_ret
    exact ⟨ret_int (by simp [tot]), ⟨vals, h⟩, Mid.refl _ _ _⟩
  · have HF := Lib.hid hf
    have HL := Lib.hid h.low
    have HS := Lib.hid h.sep
    have HC := Lib.hid (fun (j : Nat) (hj : j < pl.length) => rowvals h.out rfl hj)
    have HR := h.row
    have HOH := Lib.hid HO
    clear h hf hlv
    go_enter Tryd.func38, Tryd.ntmps38
    go_wp2
    go_loopw [1, 5] (fun t i wr => ∃ j : Nat, j ≤ pl.length ∧ i = .int .i64 j ∧ t = .int .i64 (k + tot pl j) ∧ Hid (∀ i, i < j → Ow wr B (vals.getD i undef) (marks (k + tot pl i) (rowL pl i).length)) ∧ Hid (∀ i, j ≤ i → i < pl.length → Ow wr B (vals.getD i undef) (rowL pl i)) ∧ wr.heap[g]? = w.heap[g]? ∧ Mid B D w wr) (fun _ i _ => pl.length - (intOf i).toNat)
    case atStart => exact ⟨0, Nat.zero_le _, rfl, by simp [tot], Lib.hid (fun i hi => by omega), Lib.hid (fun i _ hi => HR i hi), rfl, Mid.refl _ _ _⟩
    case round =>
      clear HR HO
      obtain ⟨j, hj, rfl, rfl, H1, H2, hgb, hb⟩ := hrel
      have htm := tot_up pl _ _ hj
      have hs0 : 0 ≤ k + (tot pl j : Int) := by omega
      have hs1 : k + (tot pl j : Int) ≤ 1099511627776 := by have := HF.out; omega
      by_cases hlt : j < pl.length
      · have hcell := HC.out j hlt
        have hcell : wr.cell? ⟨g, j, none⟩ = some (vals.getD j undef) := by rw [← hcell, Nat.zero_add]; simp only [World.cell?, hgb]
        have oj := H2.out j (Nat.le_refl _) hlt
        have hrl : (rowL pl j).length ≤ 1099511627776 := by have := tot_row pl hlt; have := HF.out; omega
        have hbj : ∀ i, i < pl.length → i ≠ j → (vals.getD i undef).ownBlock = none ∨ (vals.getD i undef).ownBlock ≠ (vals.getD j undef).ownBlock := fun i hi hne => by
          by_cases e : i < j
          · exact HS.out i j e hlt
          · rcases HS.out j i (by omega) hi with e2 | e2
            · by_cases e3 : (vals.getD i undef).ownBlock = none
              · exact .inl e3
              · exact .inr fun e4 => e3 (by rw [e4, e2])
            · exact .inr fun e4 => e2 e4.symm
        have HBJ := Lib.hid hbj
        have hgE : ∀ q, (Value.slice (some ⟨g, 0, none⟩) pl.length cap).ownBlock = some q → wr.heap[q]? = w.heap[q]? := fun q hq => by
          have e : q = g := by simpa [Value.ownBlock] using hq.symm
          rw [e]; exact hgb
        have hoj := own_ne (row1_below' HOH.out hgE) oj (by decide)
        clear hgE
        have S : Hid (tot pl (j + 1) = tot pl j + (rowL pl j).length) := Lib.hid rfl
        have MK := Lib.hid (markIntS_any _ _ B _ wr oj hrl hs0 hs1)
        have OJ := Lib.hid oj
        have HLJ := Lib.hid (fun q hq => HL.out j q hlt hq)
        obtain ⟨u, eu⟩ : ∃ u, vals.getD j undef = u := ⟨_, rfl⟩
        rw [eu] at hcell MK hoj HBJ OJ HLJ
        have EU := Lib.hid eu
        obtain ⟨x, ex⟩ : ∃ x : Int, k + (tot pl j : Int) = x := ⟨_, rfl⟩
        have EX := Lib.hid ex
        rw [ex] at MK hs0 hs1 ⊢
        clear eu hbj oj ex htm
        go_wp2_with (go_at_call 68; refine MK.out.mono ?_; rintro e w2 ⟨rfl, o2, g2⟩)
        go_roundw
        case rel =>
          refine ⟨j + 1, by omega, by go_num, by have := EX.out; have := S.out; congr 1; omega, Lib.hid (fun i hi => ?_), Lib.hid (fun i hi hil => ?_), ?_, mid_grown hb g2 OJ.out (HLJ.out)⟩
          · by_cases e : i = j
            · subst e; rw [EU.out, EX.out]; exact o2
            · exact (H1.out i (by omega)).kept g2 (HBJ.out i (by omega) e)
          · exact (H2.out i (by omega) hil).kept g2 (HBJ.out i hil (by omega))
          · rw [g2.block g (Nat.lt_of_lt_of_le hg hb.size) (fun e => by
              rcases hoj with e2 | e2
              · rw [e2] at e; cases e
              · exact e2 e.symm), hgb]
        case measure => simp only [intOf]; omega
      · obtain rfl : j = pl.length := by omega
        go_wp2
        go_ret
        refine ⟨rfl, ⟨vals, ?_, fun j hj => ?_, fun i j hij hj => HS.out i j hij (by rw [markL_len] at hj; exact hj), fun j q hj hq => HL.out j q (by rw [markL_len] at hj; exact hj) hq⟩, hb⟩
        · rw [markL_len]
          have hgE : ∀ q, (Value.slice (some ⟨g, 0, none⟩) pl.length cap).ownBlock = some q → wr.heap[q]? = w.heap[q]? := fun q hq => by
            have e : q = g := by simpa [Value.ownBlock] using hq.symm
            rw [e]; exact hgb
          exact row1_below' HOH.out hgE
        · rw [markL_len] at hj
          rw [markL_row k pl hj]
          exact H1.out j hj
set_option maxHeartbeats 8000000 in
theorem heldIntSS_any (v : Value) (pl : List (List Int)) (k : Int) (w : World) (h : Svv w v (markL k pl)) (hn : pl.length ≤ 1048576) (hf : tot pl pl.length ≤ 1048576) (hk0 : 0 ≤ k) (hk1 : k ≤ 1048577) :
    Calls Tryd.prog 39 #[v, .int .i64 k] w fun e w' => e = .returned (.int .i64 (k + tot pl pl.length)) ∧ w = w' := by
  obtain ⟨p, cap, rfl, hx⟩ := h
  have HF := Lib.hid hf
  have HX := Lib.hid hx
  clear hf hx
  rw [markL_len] at HX ⊢
  go_enter Tryd.func39, Tryd.ntmps39
  go_wp2
  go_loop [1, 5] (fun t i => ∃ j : Nat, j ≤ pl.length ∧ i = .int .i64 j ∧ t = .int .i64 (k + tot pl j)) (fun _ i => pl.length - (intOf i).toNat)
  case atStart => exact ⟨0, Nat.zero_le _, rfl, by simp [tot]⟩
  case round =>
    obtain ⟨j, hj, rfl, rfl⟩ := hrel
    have htm := tot_up pl _ _ hj
    have hs0 : 0 ≤ k + (tot pl j : Int) := by omega
    have hs1 : k + (tot pl j : Int) ≤ 1099511627776 := by have := HF.out; omega
    by_cases hlt : j < pl.length
    · obtain ⟨b, off, rfl, hbl, hc⟩ := HX.out (by omega)
      obtain ⟨u, hcell, hu⟩ := hc j hlt
      rw [markL_row k pl hlt] at hu
      have hrl : (rowL pl j).length ≤ 1099511627776 := by have := tot_row pl hlt; have := HF.out; omega
      have hrb : (rowL pl j).length ≤ 1048576 := by have := tot_row pl hlt; have := HF.out; omega
      have S : Hid (tot pl (j + 1) = tot pl j + (rowL pl j).length) := Lib.hid rfl
      have HE := Lib.hid (heldIntS_any _ _ _ w hu hrl hs0 hs1)
      obtain ⟨x, ex⟩ : ∃ x : Int, k + (tot pl j : Int) = x := ⟨_, rfl⟩
      have EX := Lib.hid ex
      rw [ex] at HE hs0 hs1 ⊢
      have d : decide (x + ((rowL pl j).length : Int) < 0) = false := by simp; omega
      clear hc hu ex htm
      go_wp2_with (go_at_call 69; refine HE.out.mono ?_; rintro e w2 ⟨rfl, rfl⟩)
      go_round
      case rel => exact ⟨j + 1, by omega, by go_num, by have := EX.out; have := S.out; congr 1; omega⟩
      case measure => simp only [intOf]; omega
    · obtain rfl : j = pl.length := by omega
      go_wp2
      go_ret
      exact ⟨rfl, rfl⟩
/-! Blocks from B on are as they were. -/
set_option maxHeartbeats 8000000 in
theorem markCardsO (n : Int) (v : Value) (pl : List (List Int)) (B D : Nat) (k : Int) (w : World) (h : Owa w B D v pl) (hn : pl.length ≤ 1048576) (hf : tot pl pl.length ≤ 1048576) (hk0 : 0 ≤ k) (hk1 : k ≤ 1048577) :
    Calls Tryd.prog 14 #[.agg #[.int .i64 n, v], .int .i64 k] w fun e w' => e = .returned (.int .i64 (k + tot pl pl.length)) ∧ Owa w' B D v (markL k pl) ∧ Mid B D w w' := by
  obtain ⟨p, cap, rfl⟩ := h.form
  have hb0 : Below w.heap.size w (w.alloc (.cells #[.int .i64 n, .slice p pl.length cap] 28)) := (Below.refl _ w).alloc (Nat.le_refl _) _
  have MK := Lib.hid (markIntSS_own _ pl B D k _ (h.below hb0 (Nat.le_refl _)) hn hf hk0 hk1)
  clear h hf
  go_enter Tryd.func14, Tryd.ntmps14
  go_wp2_with (go_at_call 38; refine MK.out.mono ?_; rintro e w1 ⟨rfl, o1, m1⟩)
  go_ret
  exact ⟨rfl, o1, ⟨m1.os.trans hb0.os, m1.tape.trans hb0.tape, m1.output.trans hb0.output, Nat.le_trans hb0.size m1.size, fun i hi hn => (m1.block i (Nat.lt_of_lt_of_le hi hb0.size) hn).trans (hb0.block i hi)⟩⟩
set_option maxHeartbeats 8000000 in
theorem heldCards_any (n : Int) (v : Value) (pl : List (List Int)) (k : Int) (w : World) (h : Svv w v (markL k pl)) (hn : pl.length ≤ 1048576) (hf : tot pl pl.length ≤ 1048576) (hk0 : 0 ≤ k) (hk1 : k ≤ 1048577) :
    Calls Tryd.prog 15 #[.agg #[.int .i64 n, v], .int .i64 k] w fun e w' => e = .returned (.int .i64 (k + tot pl pl.length)) ∧ Below w.heap.size w w' := by
  obtain ⟨p, cap, rfl⟩ := svv_form h
  have hb0 : Below w.heap.size w (w.alloc (.cells #[.int .i64 n, .slice p (markL k pl).length cap] 28)) := (Below.refl _ w).alloc (Nat.le_refl _) _
  have HE := Lib.hid (heldIntSS_any _ pl k _ (h.below hb0 (Nat.le_refl _)) hn hf hk0 hk1)
  have d : decide (k + (tot pl pl.length : Int) < 0) = false := by simp; omega
  obtain ⟨x, ex⟩ : ∃ x : Int, k + (tot pl pl.length : Int) = x := ⟨_, rfl⟩
  rw [ex] at HE d ⊢
  clear h hf ex
  go_enter Tryd.func15, Tryd.ntmps15
  go_wp2_with (go_at_call 39; refine HE.out.mono ?_; rintro e w1 ⟨rfl, rfl⟩)
  go_ret
  exact ⟨rfl, hb0⟩
end Go.Proofs.YtgojlabkngnkdaaDoor
