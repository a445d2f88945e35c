/-
  The program's reading of numbers with points between them, by its contract. Conditions: a text of at most 2^20 bytes; the library's variables hold what they held at the start.
-/
import Derived.Test.YtgojlabkngnkdaaDoorPimP
namespace Go.Proofs.YtgojlabkngnkdaaDoor.P
open Go.RowKit

theorem at_uniq {l : List UInt8} {V U : List Int} (h : AtTo l (splitW l).length V) (g : AtTo l (splitW l).length U) : V = U := by
  apply List.ext_getElem?
  intro j
  by_cases hj : j < (splitW l).length
  · have hw : (splitW l)[j]? = some (splitW l)[j] := List.getElem?_eq_getElem hj
    have h1 := h.2 j hj _ hw
    rw [g.2 j hj _ hw] at h1
    injection h1 with h1
    have hv : j < V.length := by rw [h.1]; exact hj
    have hu : j < U.length := by rw [g.1]; exact hj
    rw [List.getD_eq_getElem?_getD, List.getD_eq_getElem?_getD, List.getElem?_eq_getElem hv, List.getElem?_eq_getElem hu] at h1
    rw [List.getElem?_eq_getElem hv, List.getElem?_eq_getElem hu]
    simp at h1
    rw [h1]
  · rw [List.getElem?_eq_none (by rw [h.1]; omega), List.getElem?_eq_none (by rw [g.1]; omega)]

set_option maxHeartbeats 8000000 in
set_option maxRecDepth 20000 in
theorem parseN_any (l : List UInt8) (w : World) (hl : l.length ≤ 1048576) (hE : Env w) :
    Calls Tryd.prog 48 #[.string (bstr l), .string ⟨#[46]⟩] w fun e w' => Below w.heap.size w w' ∧
      ((∃ V u, e = .returned (.tuple #[u, .bool true]) ∧ Ow w' w.heap.size u V ∧ AtTo l (splitW l).length V ∧ itG 46 V = l) ∨
       (e = .returned (.tuple #[.slice none 0 0, .bool false]) ∧ ∀ V, AtTo l (splitW l).length V → itG 46 V ≠ l)) := by
  have hsz := bstr_size l
  obtain ⟨s, es⟩ : ∃ s, bstr l = s := ⟨_, rfl⟩
  have ES := Lib.hid es
  rw [es] at hsz ⊢
  have hsl : s.toList = l := by rw [← es, bstr_list]
  have HSL := Lib.hid hsl
  clear es hsl
  obtain ⟨n, en⟩ : ∃ n, (splitW l).length = n := ⟨_, rfl⟩
  have EN := Lib.hid en
  have hn0 : 0 < n := by
    have := splitW_ne l
    have : (splitW l).length ≠ 0 := fun e => this (List.length_eq_zero_iff.1 e)
    omega
  have hn2 : n ≤ 1048577 := by have := splitW_len l; omega
  have hS := fun wx (hx : Env wx) => split_row l (by omega) wx hx
  rw [ES.out, en] at hS
  have HS : ∀ wx, Env wx → Hid _ := fun wx hx => Lib.hid (hS wx hx)
  have HE := Lib.hid hE
  clear hS hE en
  go_enter Tryd.func48, Tryd.ntmps48
  go_wp2_with (go_at_call 47; refine ((HS _ (HE.out.below ((Below.refl _ w).alloc (Nat.le_refl _) _) (Nat.le_refl _))).out).mono ?_; rintro e w1 ⟨g, rfl, hg1, hb0⟩)
  have hb1 : Below w.heap.size w w1 := ((Below.refl _ w).alloc (Nat.le_refl _) _).trans (hb0.mono (by simp))
  have ho1 : Ow w1 w.heap.size (.slice (some ⟨w.heap.size, 0, none⟩) 0 0) [] := (ow_empty w).below hb0 (Nat.le_refl _)
  clear hb0
  go_loopw [6, 16] (fun v i wr => ∃ (k : Nat) (V : List Int), k ≤ n ∧ i = .int .i64 k ∧ V.length = k ∧ AtTo l k V ∧ (∀ x ∈ V, -9223372036854775808 ≤ x ∧ x ≤ 9223372036854775807) ∧ wr.heap[g]? = some (wordsO l) ∧ Ow wr w.heap.size v V ∧ Below w.heap.size w wr) (fun _ i _ => n - (intOf i).toNat)
  case atStart => exact ⟨0, [], Nat.zero_le _, rfl, rfl, AtTo.zero l, fun x hx => (by cases hx), hg1, ho1, hb1⟩
  case round =>
    obtain ⟨k, V, hk, rfl, hVl, hV, hVb, hg, ho, hb⟩ := hrel
    have hz := hb.size
    have hEr := HE.out.below hb (Nat.le_refl _)
    by_cases hlt : k < n
    · have hw : (splitW l)[k]? = some ((splitW l)[k]'(by rw [EN.out]; exact hlt)) := List.getElem?_eq_getElem _
      obtain ⟨wd, ewd⟩ : ∃ wd, (splitW l)[k]'(by rw [EN.out]; exact hlt) = wd := ⟨_, rfl⟩
      rw [ewd] at hw
      have hwl : wd.length ≤ 1073741824 := by
        have := splitW_mem_len l wd (List.mem_of_getElem? hw)
        omega
      have hcell := words_cell hg hw
      by_cases hx : ∃ x, Lib.atoiAll wd = .ok x
      · obtain ⟨x, hx⟩ := hx
        obtain ⟨x0, x1⟩ := Lib.atoiAll_bounds hx
        have HV := Lib.hid (hV.snoc hw hx)
        have HVB : Hid (∀ y ∈ V ++ [x], -9223372036854775808 ≤ y ∧ y ≤ 9223372036854775807) := Lib.hid (fun y hy => by
          rw [List.mem_append, List.mem_singleton] at hy
          rcases hy with hy | rfl
          · exact hVb y hy
          · omega)
        have hA := fun wx => atoi_ok wd hwl x hx wx
        obtain ⟨sw, esw⟩ : ∃ sw, bstr wd = sw := ⟨_, rfl⟩
        rw [esw] at hcell hA
        have HA : ∀ wx, Hid _ := fun wx => Lib.hid (hA wx)
        have HG := Lib.hid hg
        clear hw ewd hwl hA esw hx hEr hV hg hVb
        go_wp2_with (first
          | (go_at_call 36; refine ((HA _).out).mono ?_; rintro e w2 ⟨rfl, b2⟩; have o2 := ho.below b2 (Nat.le_refl _); have B2 : Below w.heap.size w w2 := nxt hb b2; have Z2 := B2.size; have G2 : w2.heap[g]? = some (wordsO l) := (b2.block g (Array.getElem?_eq_some_iff.1 HG.out).1).trans HG.out; have HG2 := Lib.hid G2; clear ho hb b2 G2)
          | (at_builtin; refine wpList_append_src rfl _ _ rfl w.heap.size _ V rfl (o2.alloc _) _ [x] rfl (src_one _ _) (by simp only [List.length_cons, List.length_nil]; omega) (by simp; omega) ?_; intro v' w3 h3 g3))
        have b3 := (B2.alloc Z2 _).trans ((o2.alloc _).grown (by simp; omega) g3)
        have hlt2 := (Array.getElem?_eq_some_iff.1 HG2.out).1
        have hg3 := (g3.block g (by simp; omega) (words_apart HG2.out o2)).trans ((heap_alloc_old _ _ hlt2).trans HG2.out)
        have HG3 := Lib.hid hg3
        clear o2 g3 B2 hcell hg3 hlt2
        go_roundw
        case rel => exact ⟨k + 1, V ++ [x], by omega, by go_num, by simp [hVl], HV.out, HVB.out, HG3.out, h3, b3⟩
        case measure => simp only [intOf]; omega
      · have hx2 : ∀ x, Lib.atoiAll wd ≠ .ok x := fun x e => hx ⟨x, e⟩
        have HP : Hid (∀ V, AtTo l (splitW l).length V → itG 46 V ≠ l) := Lib.hid (fun V hV _ => hx2 _ (hV.2 k (by rw [EN.out]; exact hlt) _ hw))
        have hA := fun wx (hwx : Env wx) => atoi_bad wd hwl hx2 wx hwx
        obtain ⟨sw, esw⟩ : ∃ sw, bstr wd = sw := ⟨_, rfl⟩
        rw [esw] at hcell hA
        have HA : ∀ wx, Env wx → Hid _ := fun wx hwx => Lib.hid (hA wx hwx)
        have HEr := Lib.hid hEr
        clear hw ewd hwl hA esw hx hx2 hEr hV hg hVb
        go_wp2_with (go_at_call 36; refine ((HA _ HEr.out).out).mono ?_; rintro e w2 ⟨x2, N2, rfl, b2⟩; have B2 : Below w.heap.size w w2 := nxt hb b2; clear ho hb b2)
        go_ret2
        exact ⟨B2, .inr ⟨rfl, HP.out⟩⟩
    · have hkn : k = n := by omega
      subst hkn
      have hV2 : AtTo l (splitW l).length V := by rw [EN.out]; exact hV
      clear hV hg
      have hT := numbersText_any 46 _ V wr ho.sv (by omega) (by omega) hVb hEr.ten
      by_cases htx : itG 46 V = l
      · have HP := Lib.hid (And.intro hV2 htx)
        rw [htx, ES.out] at hT
        have HT := Lib.hid hT
        clear hV2 hEr hT htx hVb
        go_wp2_with (go_at_call 30; refine (HT.out).mono ?_; rintro e w4 ⟨rfl, b4⟩; have B4 := nxt hb b4; have O4 := ho.below b4 (Nat.le_refl _); clear hb b4 ho)
        go_ret2
        exact ⟨B4, .inl ⟨_, _, rfl, O4, HP.out.1, HP.out.2⟩⟩
      · have HP : Hid (∀ V', AtTo l (splitW l).length V' → itG 46 V' ≠ l) := Lib.hid (fun V' hV' e => htx (by rw [at_uniq hV2 hV']; exact e))
        have hne : ((bstr (itG 46 V)).toList == s.toList) = false := by
          rw [bstr_list, HSL.out]; simpa using htx
        obtain ⟨S, eS⟩ : ∃ S, bstr (itG 46 V) = S := ⟨_, rfl⟩
        rw [eS] at hne hT
        have HT := Lib.hid hT
        clear hV2 hEr hT htx eS ho hVb
        go_wp2_with (go_at_call 30; refine (HT.out).mono ?_; rintro e w4 ⟨rfl, b4⟩; have B4 := nxt hb b4; clear hb b4)
        go_ret2
        exact ⟨B4, .inr ⟨rfl, HP.out⟩⟩

end Go.Proofs.YtgojlabkngnkdaaDoor.P
