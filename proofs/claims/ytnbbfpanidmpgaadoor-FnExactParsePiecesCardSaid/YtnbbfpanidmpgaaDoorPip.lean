/-
  The program's reading of a text, by its contract. Conditions: a text of at most 2^20 bytes; the library's variables hold what they held at the start.
-/
import Derived.Test.YtnbbfpanidmpgaaDoorPim
namespace Go.Proofs.YtnbbfpanidmpgaaDoor
open Go.RowKit

set_option maxHeartbeats 8000000 in
set_option maxRecDepth 20000 in
theorem implParse_any (l : List UInt8) (w : World) (hl : l.length ≤ 1048576) (hE : Env w) :
    Calls Tryd.prog 5 #[.string (bstr l)] w fun e w' => ∃ u, e = .returned (.tuple #[u, .bool (parB l)]) ∧ Ow w' w.heap.size u (parR l) ∧ Below w.heap.size w w' := by
  have hsz := bstr_size l
  obtain ⟨s, es⟩ : ∃ s, bstr l = s := ⟨_, rfl⟩
  have ES := Lib.hid es
  rw [es] at hsz ⊢
  by_cases h0 : l = [48]
  · subst h0
    have e0 : s = ⟨#[48]⟩ := es.symm
    clear es
    subst e0
    have HR := Lib.hid par_zero
    clear hsz hE
    go_enter Tryd.func5, Tryd.ntmps5
    go_wp2
    go_ret2
    exact ⟨_, ret_lb rfl HR.out.1.symm, by rw [HR.out.2]; exact ow_nil _ _, Below.refl _ _⟩
  · have H0 := Lib.hid h0
    have hs0 : (s.toList == [48]) = false := by rw [← es, bstr_list]; simpa using h0
    have hsl : s.toList = l := by rw [← es, bstr_list]
    have HSL := Lib.hid hsl
    clear es h0 hsl
    obtain ⟨n, en⟩ : ∃ n, (splitW l).length = n := ⟨_, rfl⟩
    have EN := Lib.hid en
    have hn0 : 0 < n := by
      have := splitW_ne l
      have : (splitW l).length ≠ 0 := fun e => this (List.length_eq_zero_iff.1 e)
      omega
    have hn2 : n ≤ 1048577 := by have := splitW_len l; omega
    have hS := fun wx (hx : Env wx) => split_row l (by omega) wx hx
    rw [ES.out, en] at hS
    have HS : ∀ wx, Env wx → Hid _ := fun wx hx => Lib.hid (hS wx hx)
    have HE := Lib.hid hE
    clear hS hE en
    go_enter Tryd.func5, Tryd.ntmps5
    go_wp2_with (go_at_call 10; refine ((HS _ (HE.out.below ((Below.refl _ w).alloc (Nat.le_refl _) _) (Nat.le_refl _))).out).mono ?_; rintro e w1 ⟨g, rfl, hg1, hb0⟩)
    have hb1 : Below w.heap.size w w1 := ((Below.refl _ w).alloc (Nat.le_refl _) _).trans (hb0.mono (by simp))
    have ho1 : Ow w1 w.heap.size (.slice (some ⟨w.heap.size, 0, none⟩) 0 0) [] := (ow_empty w).below hb0 (Nat.le_refl _)
    clear hb0
    go_loopw [4, 17] (fun v i wr => ∃ (k : Nat) (V : List Int), k ≤ n ∧ i = .int .i64 k ∧ V.length = k ∧ AtTo l k V ∧ wr.heap[g]? = some (wordsO l) ∧ Ow wr w.heap.size v V ∧ Below w.heap.size w wr) (fun _ i _ => n - (intOf i).toNat)
    case atStart => exact ⟨0, [], Nat.zero_le _, rfl, rfl, AtTo.zero l, hg1, ho1, hb1⟩
    case round =>
      obtain ⟨k, V, hk, rfl, hVl, hV, hg, ho, hb⟩ := hrel
      have hz := hb.size
      have hEr := HE.out.below hb (Nat.le_refl _)
      by_cases hlt : k < n
      · have hw : (splitW l)[k]? = some ((splitW l)[k]'(by rw [EN.out]; exact hlt)) := List.getElem?_eq_getElem _
        obtain ⟨wd, ewd⟩ : ∃ wd, (splitW l)[k]'(by rw [EN.out]; exact hlt) = wd := ⟨_, rfl⟩
        rw [ewd] at hw
        have hwl : wd.length ≤ 1073741824 := by
          have := splitW_mem_len l wd (List.mem_of_getElem? hw)
          omega
        have hcell := words_cell hg hw
        by_cases hx : ∃ x, Lib.atoiAll wd = .ok x
        · obtain ⟨x, hx⟩ := hx
          obtain ⟨x0, x1⟩ := Lib.atoiAll_bounds hx
          have HV := Lib.hid (hV.snoc hw hx)
          have hA := fun wx => atoi_ok wd hwl x hx wx
          obtain ⟨sw, esw⟩ : ∃ sw, bstr wd = sw := ⟨_, rfl⟩
          rw [esw] at hcell hA
          have HA : ∀ wx, Hid _ := fun wx => Lib.hid (hA wx)
          have HG := Lib.hid hg
          clear hw ewd hwl hA esw hx hEr hV hg
          go_wp2_with (first
            | (go_at_call 11; refine ((HA _).out).mono ?_; rintro e w2 ⟨rfl, b2⟩; have o2 := ho.below b2 (Nat.le_refl _); have B2 : Below w.heap.size w w2 := nxt hb b2; have Z2 := B2.size; have G2 : w2.heap[g]? = some (wordsO l) := (b2.block g (Array.getElem?_eq_some_iff.1 HG.out).1).trans HG.out; have HG2 := Lib.hid G2; clear ho hb b2 G2)
            | (at_builtin; refine wpList_append_src rfl _ _ rfl w.heap.size _ V rfl (o2.alloc _) _ [x] rfl (src_one _ _) (by simp only [List.length_cons, List.length_nil]; omega) (by simp; omega) ?_; intro v' w3 h3 g3))
          have b3 := (B2.alloc Z2 _).trans ((o2.alloc _).grown (by simp; omega) g3)
          have hlt2 := (Array.getElem?_eq_some_iff.1 HG2.out).1
          have hg3 := (g3.block g (by simp; omega) (words_apart HG2.out o2)).trans ((heap_alloc_old _ _ hlt2).trans HG2.out)
          have HG3 := Lib.hid hg3
          clear o2 g3 B2 hcell hg3 hlt2
          go_roundw
          case rel => exact ⟨k + 1, V ++ [x], by omega, by go_num, by simp [hVl], HV.out, HG3.out, h3, b3⟩
          case measure => simp only [intOf]; omega
        · have hx2 : ∀ x, Lib.atoiAll wd ≠ .ok x := fun x e => hx ⟨x, e⟩
          have HP := Lib.hid (at_fail H0.out hw hx2)
          have hA := fun wx (hwx : Env wx) => atoi_bad wd hwl hx2 wx hwx
          obtain ⟨sw, esw⟩ : ∃ sw, bstr wd = sw := ⟨_, rfl⟩
          rw [esw] at hcell hA
          have HA : ∀ wx, Env wx → Hid _ := fun wx hwx => Lib.hid (hA wx hwx)
          have HEr := Lib.hid hEr
          clear hw ewd hwl hA esw hx hx2 hEr hV hg
          go_wp2_with (go_at_call 11; refine ((HA _ HEr.out).out).mono ?_; rintro e w2 ⟨x2, N2, rfl, b2⟩; have B2 : Below w.heap.size w w2 := nxt hb b2; clear ho hb b2)
          go_ret2
          exact ⟨_, ret_lb rfl HP.out.1.symm, by rw [HP.out.2]; exact ow_nil _ _, B2⟩
      · have hkn : k = n := by omega
        subst hkn
        have hV2 : AtTo l (splitW l).length V := by rw [EN.out]; exact hV
        clear hV hg
        by_cases hgV : goodB V = true
        · have hG := goodB_iff.1 hgV
          have hp : 0 < V.length := by omega
          have hT := implText _ V wr ho.sv hG.1 hp (fun j hj => inB_iff.2 (hG.2.1 j hj)) hgV hEr.ten
          by_cases htx : txtK V V.length = l
          · have HP := Lib.hid (at_same H0.out (fun e => by rw [e] at hp; simp at hp) hG htx)
            rw [htx, ES.out] at hT
            have HT := Lib.hid hT
            clear hgV hG hV2 hEr hT htx
            go_wp2_with (go_at_call 12; refine (HT.out).mono ?_; rintro e w4 ⟨rfl, b4⟩; have B4 := nxt hb b4; have O4 := ho.below b4 (Nat.le_refl _); clear hb b4 ho)
            go_ret2
            exact ⟨_, ret_lb rfl HP.out.1.symm, by rw [HP.out.2]; exact O4, B4⟩
          · have HP := Lib.hid (at_other H0.out hV2 htx)
            have hne : ((bstr (txtK V V.length)).toList == s.toList) = false := by
              rw [bstr_list, HSL.out]; simpa using htx
            obtain ⟨S, eS⟩ : ∃ S, bstr (txtK V V.length) = S := ⟨_, rfl⟩
            rw [eS] at hne hT
            have HT := Lib.hid hT
            clear hgV hG hV2 hEr hT htx eS ho
            go_wp2_with (go_at_call 12; refine (HT.out).mono ?_; rintro e w4 ⟨rfl, b4⟩; have B4 := nxt hb b4; clear hb b4)
            go_ret2
            exact ⟨_, ret_lb rfl HP.out.1.symm, by rw [HP.out.2]; exact ow_nil _ _, B4⟩
        · have hgV2 : goodB V = false := by simpa using hgV
          have HP := Lib.hid (at_bad H0.out hV2 (fun h => hgV (goodB_iff.2 h)))
          have HT := Lib.hid (implText_no _ V _ ho.sv (by omega) hgV2)
          clear hgV hgV2 hV2 hEr ho
          go_wp2_with (go_at_call 12; refine (HT.out).mono ?_; rintro e w4 ⟨rfl, b4⟩; have B4 := nxt hb b4; clear hb b4)
          go_ret2
          exact ⟨_, ret_lb rfl HP.out.1.symm, by rw [HP.out.2]; exact ow_nil _ _, B4⟩

end Go.Proofs.YtnbbfpanidmpgaaDoor
