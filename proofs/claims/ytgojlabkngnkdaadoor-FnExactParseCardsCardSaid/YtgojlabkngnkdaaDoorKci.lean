/-
  CardsText: the model and the program give the same text. Conditions: the library's table of powers of ten is as it was laid.
-/
import Derived.Test.YtgojlabkngnkdaaDoorKct
import Derived.Test.YtgojlabkngnkdaaDoorQa
import Derived.Test.YtgojlabkngnkdaaDoorQcs
namespace Go.Proofs.YtgojlabkngnkdaaDoor
open Go.RowKit

set_option maxHeartbeats 1000000 in
theorem numbersText_none (b : UInt8) (v : Value) (w : World) (h : Sv w v []) :
    Calls Tryd.prog 30 #[v, .string ⟨#[b]⟩] w fun e w' => e = .returned (.string ⟨#[]⟩) ∧ Below w.heap.size w w' := by
  obtain ⟨p, cap, rfl, -⟩ := h
  have hb0 : Below w.heap.size w (w.alloc (.cells #[] 9)) := (Below.refl _ _).alloc (Nat.le_refl _) _
  have HJ := Lib.hid (joinW_any b _ [] w.heap.size _ (os_empty w) (by simp) (by simp))
  rw [Lib.join_nil] at HJ
  go_enter Tryd.func30, Tryd.ntmps30
  go_wp2
  refine wp_loop_rounds 1 ?_
  rw [rounds_succ]
  go_wp2_with (go_at_call 32; refine (HJ.out).mono ?_; rintro e w1 ⟨rfl, b1⟩)
  go_ret
  exact ⟨rfl, nxt hb0 b1⟩
theorem dd_nn {x : Int} : 1 ≤ (dd x).length := by
  unfold dd
  rw [Lib.decDigits_length]
  by_cases h : x.toNat < 10
  · rw [Lib.nDigits_small h]; omega
  · rw [Lib.nDigits_big h]; omega
theorem bstr_listK (l : List UInt8) : (bstr l).toList = l := by simp [bstr, ByteArray.toList_eq]
theorem itG_ne {b : UInt8} {x : Int} {t : List Int} (h : 0 ≤ x) : itG b (x :: t) ≠ [] := by
  unfold itG
  rw [List.map_cons, Lib.join_cons, itoa_ddP h]
  intro e
  have h1 := congrArg List.length e
  rw [List.length_append, List.length_nil] at h1
  have := dd_nn (x := x)
  omega
theorem itD {xs : List Int} (h : ∀ x ∈ xs, 0 ≤ x) : itG 46 xs = txtD xs xs.length := by
  unfold itG txtD
  rw [List.take_length]
  congr 1
  exact List.map_congr_left fun x hx => itoa_ddP (h x hx)
theorem ris_mem {n : Int} {xs : List Int} (h : RisTo xs 0 (n - 1) xs.length) {x : Int} (hx : x ∈ xs) : 0 ≤ x ∧ x ≤ n - 1 := by
  obtain ⟨j, hj, rfl⟩ := List.getElem_of_mem hx
  have := h.1 j hj
  rw [List.getD_eq_getElem?_getD, List.getElem?_eq_getElem hj] at this
  simpa using this
theorem rowT_len {n : Int} {xs : List Int} (hn : n ≤ 128) (h : RisTo xs 0 (n - 1) xs.length) (hl : xs.length ≤ 128) : (rowT xs).length ≤ 100000 := by
  unfold rowT
  split
  · simp
  · rw [← itD fun x hx => (ris_mem h hx).1]
    have := itG_len 46 (xs := xs) fun x hx => by have := ris_mem h hx; omega
    omega
noncomputable def ctA (n : Int) (Ls : List (List Int)) : ByteArray := if caB n Ls = true then bstr (txtC n Ls) else ⟨#[]⟩
theorem ctA_bad {n : Int} {Ls : List (List Int)} (h : caB n Ls = false) : ctA n Ls = ⟨#[]⟩ := by unfold ctA; rw [h]; rfl
theorem ctA_good {n : Int} {Ls : List (List Int)} (h : caB n Ls = true) : ctA n Ls = bstr (txtC n Ls) := by unfold ctA; rw [if_pos h]
theorem caB_g {n : Int} {Ls : List (List Int)} (h : caB n Ls = true) : CaG n Ls := by
  by_cases q : CaG n Ls
  · exact q
  · rw [caB_no q] at h; cases h

set_option maxHeartbeats 2000000 in
theorem specCT_any (n : Int) (v : Value) (Ls : List (List Int)) (w : World) (h : Svv w v Ls) (hl : Ls.length ≤ 1099511627776) (hx : ∀ j, j < Ls.length → (rowL Ls j).length ≤ 1099511627776) :
    Calls Tryd.prog 8 #[.agg #[.int .i64 n, v]] w fun e w' => e = .returned (.tuple #[.string (ctA n Ls), .bool (caB n Ls)]) ∧ Below w.heap.size w w' := by
  obtain ⟨p, cap, rfl⟩ := svv_form h
  obtain ⟨W, eW⟩ : ∃ W, w.alloc (.cells #[.int .i64 n, .slice p Ls.length cap] 28) = W := ⟨_, rfl⟩
  have hb0 : Below w.heap.size w W := by rw [← eW]; exact (Below.refl _ w).alloc (Nat.le_refl _) _
  have C0 := Lib.hid (show W.cell? ⟨w.heap.size, 0, none⟩ = some (.int .i64 n) by rw [← eW]; exact card_n w n _)
  have C1 := Lib.hid (show W.cell? ⟨w.heap.size, 1, none⟩ = some (.slice p Ls.length cap) by rw [← eW]; exact card_v w n _)
  have ZW : Hid (w.heap.size < W.heap.size) := Lib.hid (by rw [← eW]; simp)
  have HS := Lib.hid (h.below hb0 (Nat.le_refl _))
  have PG := Lib.hid (caGood_any n _ Ls W HS.out hl hx)
  clear h hx
  have c0 := C0.out
  have c1 := C1.out
  cases hg : caB n Ls with
  | false =>
    have HAn := Lib.hid (ctA_bad hg)
    rw [hg] at PG
    clear hg
    go_enter Tryd.func8, Tryd.ntmps8
    go_wp2_with fail
    clear eW
    refine PG.out.mono ?_
    rintro e w1 ⟨rfl, b1⟩
    go_wp2_with fail
    go_ret2
    exact ⟨ret_text HAn.out.symm, nxt hb0 b1⟩
  | true =>
    have HAn := Lib.hid (ctA_good hg)
    have TT := fun W' (hW : Below W.heap.size W W') => Lib.hid (caText_any n _ Ls W' (HS.out.below hW (Nat.le_refl _)) (caB_g hg))
    rw [hg] at PG
    clear hg
    go_enter Tryd.func8, Tryd.ntmps8
    go_wp2_with fail
    clear eW c0 c1
    refine PG.out.mono ?_
    rintro e w1 ⟨rfl, b1⟩
    have d0 := (b1.cell (p := ⟨w.heap.size, 0, none⟩) ZW.out).trans C0.out
    have d1 := (b1.cell (p := ⟨w.heap.size, 1, none⟩) ZW.out).trans C1.out
    go_wp2_with fail
    refine (TT _ b1).out.mono ?_
    rintro e w2 ⟨rfl, b2⟩
    go_wp2_with fail
    go_ret2
    exact ⟨ret_text HAn.out.symm, nxt hb0 (nxt b1 b2)⟩

set_option maxHeartbeats 8000000 in
set_option maxRecDepth 100000 in
theorem implCT_any (n : Int) (v : Value) (Ls : List (List Int)) (w : World) (h : Svv w v Ls) (hl : Ls.length ≤ 1099511627776) (hx : ∀ j, j < Ls.length → (rowL Ls j).length ≤ 1099511627776) (ht : Ten w) :
    Calls Tryd.prog 10 #[.agg #[.int .i64 n, v]] w fun e w' => e = .returned (.tuple #[.string (ctA n Ls), .bool (caB n Ls)]) ∧ Below w.heap.size w w' := by
  obtain ⟨p, cap, rfl⟩ := svv_form h
  obtain ⟨W, eW⟩ : ∃ W, w.alloc (.cells #[.int .i64 n, .slice p Ls.length cap] 28) = W := ⟨_, rfl⟩
  have hb0 : Below w.heap.size w W := by rw [← eW]; exact (Below.refl _ w).alloc (Nat.le_refl _) _
  have C0 := Lib.hid (show W.cell? ⟨w.heap.size, 0, none⟩ = some (.int .i64 n) by rw [← eW]; exact card_n w n _)
  have C1 := Lib.hid (show W.cell? ⟨w.heap.size, 1, none⟩ = some (.slice p Ls.length cap) by rw [← eW]; exact card_v w n _)
  have ZW : Hid (w.heap.size < W.heap.size) := Lib.hid (by rw [← eW]; simp)
  have HS := Lib.hid (h.below hb0 (Nat.le_refl _))
  have PG := Lib.hid (implAreCards_any n _ Ls W HS.out hl hx)
  have HT := Lib.hid (fun W' (hW : Below w.heap.size w W') => ht.below hW (Nat.le_refl _))
  clear h hx ht
  have c0 := C0.out
  have c1 := C1.out
  cases hg : caB n Ls with
  | false =>
    have HAn := Lib.hid (ctA_bad hg)
    rw [hg] at PG
    clear hg
    go_enter Tryd.func10, Tryd.ntmps10
    go_wp2_with fail
    clear eW
    refine PG.out.mono ?_
    rintro e w1 ⟨rfl, b1⟩
    go_wp2_with fail
    go_ret2
    exact ⟨ret_text HAn.out.symm, nxt hb0 b1⟩
  | true =>
    have HAn := Lib.hid (ctA_good hg)
    have HG := Lib.hid (caB_g hg)
    have h12 := HG.out.len
    have hn1 := HG.out.lo
    have hn2 := HG.out.hi
    rw [hg] at PG
    clear hg
    go_enter Tryd.func10, Tryd.ntmps10
    go_wp2_with fail
    clear eW c0 c1
    refine PG.out.mono ?_
    rintro e w1 ⟨rfl, b1⟩
    have lt1 := Nat.lt_of_lt_of_le ZW.out b1.size
    have d1 := (b1.cell (p := ⟨w.heap.size, 1, none⟩) ZW.out).trans C1.out
    have x1 : (w1.alloc (.cells #[] 9)).cell? ⟨w.heap.size, 1, none⟩ = some (.slice p Ls.length cap) := (World.cell?_alloc_past _ _ _ lt1).trans d1
    have D0 := Lib.hid ((b1.cell (p := ⟨w.heap.size, 0, none⟩) ZW.out).trans C0.out)
    have hb1 := nxt hb0 b1
    have HX := Lib.hid (HS.out.below b1 (Nat.le_refl _))
    have hB1 : Below w1.heap.size w1 (w1.alloc (.cells #[] 9)) := (Below.refl _ _).alloc (Nat.le_refl _) _
    have ho0 := os_empty w1
    clear b1 HS PG
    go_wp2_with fail
    clear d1 x1
    go_loopw [4, 15] (fun t i wr => ∃ (k : Nat), k ≤ Ls.length ∧ i = .int .i64 k ∧ Ws wr w1.heap.size t ((Ls.take k).map fun xs => bstr (rowT xs)) ∧ Below w1.heap.size w1 wr) (fun _ i _ => Ls.length - (intOf i).toNat)
    case atStart => exact ⟨0, Nat.zero_le _, rfl, ho0, hB1⟩
    case round =>
      clear ho0 hB1
      obtain ⟨k, hk, rfl, ho, hB⟩ := hrel
      by_cases hlt : k < Ls.length
      · obtain ⟨b, off, rfl, hbl, hr⟩ := svv_row HX.out (by omega)
        obtain ⟨u, hu, hs⟩ := hr k hlt
        have hcell := (hB.cell (p := ⟨b, off + k, none⟩) hbl).trans hu
        have hs2 := hs.below hB (Nat.le_refl _)
        have hrow := HG.out.row hlt
        have hris := HG.out.ris k hlt
        have eR : Ls.getD k [] = rowL Ls k := rfl
        rw [eR] at hrow hris
        have S1 := Lib.hid (show (Ls.take (k + 1)).map (fun xs => bstr (rowT xs)) = (Ls.take k).map (fun xs => bstr (rowT xs)) ++ [bstr (rowT (rowL Ls k))] by rw [ls_take hlt, List.map_append]; rfl)
        have HL := Lib.hid (show ((Ls.take k).map (fun xs => bstr (rowT xs))).length ≤ 12 by simp; omega)
        have T3 := HT.out wr (nxt hb1 hB)
        generalize eX : rowL Ls k = xs at *
        clear hu hs hr eR eX
        cases xs with
        | nil =>
          have HN := Lib.hid (numbersText_none 46 u wr hs2)
          have S2 : bstr (rowT []) = ⟨#[45]⟩ := rfl
          rw [S2] at S1
          clear T3 hs2 hrow hris S2
          go_wp2_with (first
            | (go_at_call 30; refine (HN.out).mono ?_; rintro e w2 ⟨rfl, b2⟩; have o2 := ho.below b2 (Nat.le_refl _); have B2 : Below w1.heap.size w1 w2 := nxt hB b2; have Z2 := B2.size; clear ho hB b2)
            | (at_builtin; refine wpList_append_str rfl _ _ rfl w1.heap.size _ _ rfl (o2.alloc _) _ ⟨#[45]⟩ rfl (by simp) (by have := HL.out; omega) (by simp; omega) ?_; intro v' w3 h3 g3; have B3 : Below w1.heap.size w1 w3 := (B2.alloc Z2 _).trans ((o2.alloc _).grown (by simp; omega) g3); clear o2 g3 B2 Z2))
          go_roundw
          case rel => exact ⟨k + 1, by omega, by go_num, by rw [S1.out]; exact h3, B3⟩
          case measure => simp [intOf]; omega
        | cons x t =>
          have hnn : ∀ y ∈ x :: t, 0 ≤ y ∧ y ≤ n - 1 := fun y hy => ris_mem hris hy
          have hN := numbersText_any 46 u (x :: t) wr hs2 (by simp) (by omega) (fun y hy => by have := hnn y hy; omega) T3
          have hne := itG_ne (b := 46) (t := t) (hnn x (by simp)).1
          rw [itD fun y hy => (hnn y hy).1] at hN hne
          rw [show rowT (x :: t) = txtD (x :: t) (x :: t).length from rowT_some (by simp)] at S1
          have hDb : (bstr (txtD (x :: t) (x :: t).length)).toList.isEmpty = false := by
            rw [bstr_listK]
            cases hq : txtD (x :: t) (x :: t).length with
            | nil => exact absurd hq hne
            | cons a r => rfl
          generalize bstr (txtD (x :: t) (x :: t).length) = D at *
          have HN := Lib.hid hN
          clear hN T3 hs2 hrow hris hnn hne
          go_wp2_with (first
            | (go_at_call 30; refine (HN.out).mono ?_; rintro e w2 ⟨rfl, b2⟩; have o2 := ho.below b2 (Nat.le_refl _); have B2 : Below w1.heap.size w1 w2 := nxt hB b2; have Z2 := B2.size; clear ho hB b2)
            | (at_builtin; refine wpList_append_str rfl _ _ rfl w1.heap.size _ _ rfl (o2.alloc _) _ D rfl (by simp) (by have := HL.out; omega) (by simp; omega) ?_; intro v' w3 h3 g3; have B3 : Below w1.heap.size w1 w3 := (B2.alloc Z2 _).trans ((o2.alloc _).grown (by simp; omega) g3); clear o2 g3 B2 Z2))
          go_roundw
          case rel => exact ⟨k + 1, by omega, by go_num, by rw [S1.out]; exact h3, B3⟩
          case measure => simp [intOf]; omega
      · obtain rfl : k = Ls.length := by omega
        rw [List.take_length] at ho
        rw [show (Ls.map fun xs => bstr (rowT xs)) = (Ls.map rowT).map bstr by rw [List.map_map]; rfl] at ho
        have hz : ∀ l ∈ Ls.map rowT, l.length ≤ 100000 := by
          intro l hl'
          obtain ⟨xs, hc, rfl⟩ := List.mem_map.1 hl'
          obtain ⟨j, hj, rfl⟩ := List.getElem_of_mem hc
          have e1 : Ls.getD j [] = Ls[j] := by rw [List.getD_eq_getElem?_getD, List.getElem?_eq_getElem hj]; rfl
          have r1 := HG.out.ris j hj
          have r2 := HG.out.row hj
          rw [e1] at r1 r2
          exact rowT_len hn2 r1 r2
        have zJ := join_lenM 44 100000 (Ls.map rowT) hz
        rw [List.length_map] at zJ
        have HI := Lib.hid (itoaG_any n wr (by omega) (by omega) (HT.out wr (nxt hb1 hB)))
        have zN := itoa_len (x := n) (by omega) (by omega)
        rw [itoa_ddP (by omega : 0 ≤ n)] at HI zN
        have zN2 : (bstr (dd n)).size ≤ 20 := by rw [bstr_size]; exact zN
        have zJ2 : (bstr (Lib.join (Ls.map rowT) [44])).size ≤ 1200012 := by rw [bstr_size]; omega
        have c0 := (hB.cell (p := ⟨w.heap.size, 0, none⟩) lt1).trans D0.out
        have HJ := Lib.hid (fun wz (hz2 : Below wr.heap.size wr wz) => joinW_any 44 _ (Ls.map rowT) w1.heap.size wz (ho.below hz2 (Nat.le_refl _)) (by rw [List.length_map]; omega) hz)
        have R := Lib.hid (show bstr (dd n) ++ ⟨#[35]⟩ ++ bstr (Lib.join (Ls.map rowT) [44]) = bstr (txtC n Ls) by unfold txtC txtL; rw [List.take_length, b35, bstr_app, bstr_app])
        generalize bstr (dd n) = DN at *
        generalize bstr (Lib.join (Ls.map rowT) [44]) = DJ at *
        clear ho hz zJ zN
        go_wp2_with (first
          | (go_at_call 31; refine (HI.out).mono ?_; rintro e w2 ⟨rfl, b2⟩)
          | (go_at_call 32; refine (HJ.out _ b2).mono ?_; rintro e w3 ⟨rfl, b3⟩))
        go_ret2
        exact ⟨ret_text (by rw [HAn.out, ← R.out]), nxt hb1 (nxt hB (nxt b2 b3))⟩
end Go.Proofs.YtgojlabkngnkdaaDoor
