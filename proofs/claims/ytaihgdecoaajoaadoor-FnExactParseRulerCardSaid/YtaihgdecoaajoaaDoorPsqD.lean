/-
  The model's reading of a text, by its contract. Condition: a text of at most 2^20 bytes.
-/
import Derived.Test.YtaihgdecoaajoaaDoorPsrD
namespace Go.Proofs.YtaihgdecoaajoaaDoor
open Go.RowKit

theorem src_one (w : World) (n : Int) : Src (w.alloc (.cells #[.int .i64 n] 3)) (.slice (some ⟨w.heap.size, 0, none⟩) 1 1) [n] := by
  refine .inr ⟨w.heap.size, 0, 1, rfl, by simp, fun j hj => ?_⟩
  obtain rfl : j = 0 := by simpa using hj
  have h := heap_alloc_new w (.cells #[.int .i64 n] 3)
  simp only [World.cell?, h]
  rfl
theorem ow_nil (w : World) (B : Nat) : Ow w B (.slice none 0 0) [] := World.ownsRow_nil _ _ _ _
theorem ret_lb {u v : Value} {c d : Bool} (h : u = v) (g : c = d) : Ending.returned (.tuple #[u, .bool c]) = .returned (.tuple #[v, .bool d]) := by rw [h, g]
theorem bstr_list (l : List UInt8) : (bstr l).toList = l := by rw [ByteArray.toList_eq]; simp [bstr]
theorem outW_succ {l : List UInt8} {k : Nat} {w : List UInt8} (h : (splitW l)[k]? = some w) : (outW l).take (k + 1) = (outW l).take k ++ [readW w] := by
  unfold outW
  rw [List.take_add_one, List.getElem?_map, h]; rfl

set_option maxHeartbeats 4000000 in
set_option maxRecDepth 20000 in
theorem piParse_any (l : List UInt8) (w : World) (hl : l.length ≤ 1048576) :
    Calls Tryd.prog 28 #[.string (bstr l)] w fun e w' => ∃ u, e = .returned (.tuple #[u, .bool (parB l)]) ∧ Ow w' w.heap.size u (parR l) ∧ Below w.heap.size w w' := by
  have hsz := bstr_size l
  obtain ⟨s, es⟩ : ∃ s, bstr l = s := ⟨_, rfl⟩
  have ES := Lib.hid es
  rw [es] at hsz ⊢
  by_cases h0 : l = [48]
  · subst h0
    have e0 : s = ⟨#[48]⟩ := es.symm
    clear es
    subst e0
    have HR := Lib.hid par_zero
    clear hsz
    go_enter Tryd.func28, Tryd.ntmps28
    go_wp2
    go_ret2
    exact ⟨_, ret_lb rfl HR.out.1.symm, by rw [HR.out.2]; exact ow_nil _ _, Below.refl _ _⟩
  · have H0 := Lib.hid h0
    have hs0 : (s.toList == [48]) = false := by rw [← es, bstr_list]; simpa using h0
    clear es h0
    by_cases h2 : l.length ≤ 200
    · obtain ⟨R, eR⟩ : ∃ R, outW l = R := ⟨_, rfl⟩
      have ER := Lib.hid eR
      clear eR
      obtain ⟨n, en⟩ : ∃ n, (splitW l).length = n := ⟨_, rfl⟩
      have EN := Lib.hid en
      have hn0 : 0 < n := by
        have := splitW_ne l
        have : (splitW l).length ≠ 0 := fun e => this (List.length_eq_zero_iff.1 e)
        omega
      have hn2 : n ≤ 201 := by have := splitW_len l; omega
      clear en
      have hS := fun wx => l1Split_any l wx (by omega)
      rw [ES.out] at hS
      have HS : ∀ wx, Hid _ := fun wx => Lib.hid (hS wx)
      clear hS
      go_enter Tryd.func28, Tryd.ntmps28
      go_wp2_with (go_at_call 33; refine ((HS _).out).mono ?_; rintro e w1 ⟨u1, rfl, o1, b1⟩; have hc1 := o1.cells (by rw [List.length_map, EN.out]; exact hn0); rw [List.length_map, EN.out] at hc1; obtain ⟨g, cap, rfl, hg, hcap, hcell⟩ := hc1; have HC := Lib.hid hcell; clear hcell o1)
      have z1 := b1.size
      go_loopw [4, 16] (fun v i wr => ∃ k : Nat, k ≤ n ∧ i = .int .i64 k ∧ Ow wr w1.heap.size v ((outW l).take k) ∧ Below w1.heap.size w1 wr) (fun _ i _ => n - (intOf i).toNat)
      case atStart => exact ⟨0, Nat.zero_le _, rfl, ow_nil _ _, Below.refl _ _⟩
      case round =>
        obtain ⟨k, hk, rfl, ho, hb⟩ := hrel
        have hz := hb.size
        by_cases hlt : k < n
        · have hw : (splitW l)[k]? = some ((splitW l)[k]'(by rw [EN.out]; exact hlt)) := List.getElem?_eq_getElem _
          obtain ⟨wd, ewd⟩ : ∃ wd, (splitW l)[k]'(by rw [EN.out]; exact hlt) = wd := ⟨_, rfl⟩
          rw [ewd] at hw
          have hwl : wd.length ≤ 1073741824 := by
            have := splitW_mem_len l wd (List.mem_of_getElem? hw)
            omega
          have hcell := HC.out k (bstr wd) (by rw [List.getElem?_map, hw]; rfl)
          have hcell := (hb.cell (p := ⟨g, 0 + k, none⟩) hg).trans hcell
          have HW := Lib.hid (outW_succ hw)
          have hR := fun wx => l1Read_any wd wx hwl
          obtain ⟨sw, esw⟩ : ∃ sw, bstr wd = sw := ⟨_, rfl⟩
          obtain ⟨x, ex⟩ : ∃ x, readW wd = x := ⟨_, rfl⟩
          rw [esw] at hcell hR
          rw [ex] at hR
          have EX := Lib.hid ex
          have HRd : ∀ wx, Hid _ := fun wx => Lib.hid (hR wx)
          have hL : ((outW l).take k).length = k := by rw [List.length_take, outW_len, EN.out]; omega
          obtain ⟨L, eL⟩ : ∃ L, (outW l).take k = L := ⟨_, rfl⟩
          have EL := Lib.hid eL
          rw [eL] at ho hL
          clear hw ewd hwl hR esw ex eL
          rw [Nat.zero_add] at hcell
          go_wp2_with (first
            | (go_at_call 34; refine ((HRd _).out).mono ?_; rintro e w2 ⟨rfl, rfl⟩)
            | (at_builtin; refine wpList_append_src rfl _ _ rfl w1.heap.size _ L rfl (ho.alloc _) _ [x] rfl (src_one _ _) (by simp only [List.length_cons, List.length_nil]; omega) (by simp; omega) ?_; intro v' w3 h3 g3))
          have b3 := (hb.alloc hz _).trans ((ho.alloc _).grown (by simp; omega) g3)
          clear ho g3 hb hcell
          go_roundw
          case rel => exact ⟨k + 1, by omega, by go_num, by rw [HW.out, EX.out, EL.out]; exact h3, b3⟩
          case measure => simp only [intOf]; omega
        · have hkn : k = n := by omega
          subst hkn
          have hL : (outW l).take k = outW l := List.take_of_length_le (by rw [outW_len, EN.out]; omega)
          rw [hL] at ho
          have hlen : (outW l).length = k := by rw [outW_len, EN.out]
          have B := nxt b1 hb
          by_cases hg2 : goodB (outW l) = true
          · have HP := Lib.hid (par_yes H0.out h2 (goodB_iff.1 hg2))
            have HG := Lib.hid hg2
            clear hg2 hL
            go_wp2_with (go_at_call 25; refine (piGood_any _ _ _ ho.sv (by omega)).mono ?_; rw [HG.out]; rintro e w4 ⟨rfl, b4⟩; have o4 := (ho.mono z1).below b4 (Nat.le_refl _); have B4 := nxt B b4; clear ho)
            go_ret2
            exact ⟨_, ret_lb rfl HP.out.1.symm, by rw [HP.out.2]; exact o4, B4⟩
          · have hg3 : goodB (outW l) = false := by simpa using hg2
            have HP := Lib.hid (par_no H0.out (fun h => hg2 (goodB_iff.2 h.2)))
            have HG := Lib.hid hg3
            clear hg2 hg3 hL
            go_wp2_with (go_at_call 25; refine (piGood_any _ _ _ ho.sv (by omega)).mono ?_; rw [HG.out]; rintro e w4 ⟨rfl, b4⟩; have B4 := nxt B b4; clear ho)
            go_ret2
            exact ⟨_, ret_lb rfl HP.out.1.symm, by rw [HP.out.2]; exact ow_nil _ _, B4⟩
    · have HP := Lib.hid (par_no H0.out (fun h => h2 h.1))
      go_enter Tryd.func28, Tryd.ntmps28
      go_wp2
      go_ret2
      exact ⟨_, ret_lb rfl HP.out.1.symm, by rw [HP.out.2]; exact ow_nil _ _, Below.refl _ _⟩

theorem specParse_any (l : List UInt8) (w : World) (hl : l.length ≤ 1048576) :
    Calls Tryd.prog 17 #[.string (bstr l)] w fun e w' => ∃ u, e = .returned (.tuple #[u, .bool (parB l)]) ∧ Ow w' w.heap.size u (parR l) ∧ Below w.heap.size w w' := by
  go_enter Tryd.func17, Tryd.ntmps17
  go_wp2_with fail
  refine (piParse_any l _ hl).mono ?_
  rintro e w1 ⟨u, rfl, o1, b1⟩
  go_wp2_with fail
  go_ret2
  exact ⟨_, rfl, o1, b1⟩

end Go.Proofs.YtaihgdecoaajoaaDoor
