/-
  The text of cards in the model, by its contract. Condition: the lists are cards.
-/
import Derived.Test.YtgojlabkngnkdaaDoorYpi
import Derived.Test.YtgojlabkngnkdaaDoorKga
namespace Go.Proofs.YtgojlabkngnkdaaDoor
open Go.RowKit

/-- The text of a list: its numbers with points between them, or a dash. -/
def txtD (xs : List Int) (j : Nat) : List UInt8 := Lib.join ((xs.take j).map dd) [46]
def rowT (xs : List Int) : List UInt8 := if xs.length = 0 then [45] else txtD xs xs.length
/-- The text of the first k lists. -/
def txtL (Ls : List (List Int)) (k : Nat) : List UInt8 := Lib.join ((Ls.take k).map rowT) [44]
def txtC (n : Int) (Ls : List (List Int)) : List UInt8 := dd n ++ [35] ++ txtL Ls Ls.length
theorem txtD_zero (xs : List Int) : txtD xs 0 = [] := by simp [txtD, Lib.join_nil]
theorem txtD_one {xs : List Int} {x : Int} (hk : 0 < xs.length) (hx : xs.getD 0 0 = x) : txtD xs (0 + 1) = dd x := by
  unfold txtD
  rw [take_snoc hk hx]
  simp [Lib.join_one]
theorem txtD_succ {xs : List Int} {k : Nat} {x : Int} (h0 : 0 < k) (hk : k < xs.length) (hx : xs.getD k 0 = x) : txtD xs (k + 1) = txtD xs k ++ [46] ++ dd x := by
  unfold txtD
  rw [take_snoc hk hx, List.map_append, List.map_singleton, join_snoc]
  intro e
  have := congrArg List.length e
  simp only [List.length_map, List.length_take, List.length_nil] at this
  omega
theorem ls_take {Ls : List (List Int)} {k : Nat} (hk : k < Ls.length) : Ls.take (k + 1) = Ls.take k ++ [rowL Ls k] := by
  rw [List.take_add_one, List.getElem?_eq_getElem hk]; simp [rowL, List.getD_eq_getElem?_getD, List.getElem?_eq_getElem hk]
theorem txtL_zero (Ls : List (List Int)) : txtL Ls 0 = [] := by simp [txtL, Lib.join_nil]
theorem txtL_one {Ls : List (List Int)} (hk : 0 < Ls.length) : txtL Ls (0 + 1) = rowT (rowL Ls 0) := by
  unfold txtL
  rw [ls_take hk]
  simp [Lib.join_one]
theorem txtL_succ {Ls : List (List Int)} {k : Nat} (h0 : 0 < k) (hk : k < Ls.length) : txtL Ls (k + 1) = txtL Ls k ++ [44] ++ rowT (rowL Ls k) := by
  unfold txtL
  rw [ls_take hk, List.map_append, List.map_singleton, join_snoc]
  intro e
  have := congrArg List.length e
  simp only [List.length_map, List.length_take, List.length_nil] at this
  omega
theorem b44 : (⟨#[44]⟩ : ByteArray) = bstr [44] := rfl
theorem b45 : (⟨#[45]⟩ : ByteArray) = bstr [45] := rfl
theorem b46 : (⟨#[46]⟩ : ByteArray) = bstr [46] := rfl
theorem b35 : (⟨#[35]⟩ : ByteArray) = bstr [35] := rfl
theorem z1b (x : UInt8) : (⟨#[x]⟩ : ByteArray).size = 1 := rfl
/-- What lies before a list's text: nothing, or what was there and a comma. -/
theorem step0 {n : Int} {Ls : List (List Int)} {S : ByteArray} (hk : 0 < Ls.length) (h : S = bstr (dd n ++ [35] ++ txtL Ls 0)) : S ++ bstr (rowT (rowL Ls 0)) = bstr (dd n ++ [35] ++ txtL Ls (0 + 1)) := by
  rw [h, bstr_app, txtL_zero, txtL_one hk, List.append_nil]
theorem stepD {S1 T D : ByteArray} {xs : List Int} {j : Nat} {x : Int} (h0 : 0 < j) (hj : j < xs.length) (hx : xs.getD j 0 = x) (hT : T = S1 ++ bstr (txtD xs j)) (hD : bstr (dd x) = D) : T ++ ⟨#[46]⟩ ++ D = S1 ++ bstr (txtD xs (j + 1)) := by
  subst hT; subst hD
  rw [txtD_succ h0 hj hx, ← bstr_app, ← bstr_app, ← b46]
  simp only [ByteArray.append_assoc]
theorem step0' {n : Int} {Ls : List (List Int)} {S : ByteArray} {k : Nat} (h0 : k = 0) (hk : k < Ls.length) (h : S = bstr (dd n ++ [35] ++ txtL Ls k)) : S ++ bstr (rowT (rowL Ls k)) = bstr (dd n ++ [35] ++ txtL Ls (k + 1)) := by
  subst h0; exact step0 hk h
theorem stepk {n : Int} {Ls : List (List Int)} {S : ByteArray} {k : Nat} (h0 : 0 < k) (hk : k < Ls.length) (h : S = bstr (dd n ++ [35] ++ txtL Ls k)) : S ++ ⟨#[44]⟩ ++ bstr (rowT (rowL Ls k)) = bstr (dd n ++ [35] ++ txtL Ls (k + 1)) := by
  rw [h, b44, bstr_app, bstr_app, txtL_succ h0 hk]
  congr 1
  simp only [List.append_assoc]
theorem rowT_none {xs : List Int} (h : xs.length = 0) : bstr (rowT xs) = ⟨#[45]⟩ := by unfold rowT; rw [if_pos h]; rfl
theorem rowT_some {xs : List Int} (h : ¬ xs.length = 0) : rowT xs = txtD xs xs.length := by unfold rowT; rw [if_neg h]
theorem bstr_nil (S : ByteArray) : S ++ bstr [] = S := by
  rw [show bstr [] = ByteArray.empty from rfl, ByteArray.append_empty]

set_option maxHeartbeats 8000000 in
set_option maxRecDepth 100000 in
theorem caText_any (n : Int) (v : Value) (Ls : List (List Int)) (w : World) (h : Svv w v Ls) (hg : CaG n Ls) :
    Calls Tryd.prog 27 #[.agg #[.int .i64 n, v]] w fun e w' => e = .returned (.string (bstr (txtC n Ls))) ∧ Below w.heap.size w w' := by
  obtain ⟨p, cap, rfl⟩ := svv_form h
  have hl := hg.len
  obtain ⟨W, eW⟩ : ∃ W, w.alloc (.cells #[.int .i64 n, .slice p Ls.length cap] 28) = W := ⟨_, rfl⟩
  have hb0 : Below w.heap.size w W := by rw [← eW]; exact (Below.refl _ w).alloc (Nat.le_refl _) _
  have C0 := Lib.hid (show W.cell? ⟨w.heap.size, 0, none⟩ = some (.int .i64 n) by rw [← eW]; exact card_n w n _)
  have C1 := Lib.hid (show W.cell? ⟨w.heap.size, 1, none⟩ = some (.slice p Ls.length cap) by rw [← eW]; exact card_v w n _)
  have ZW : Hid (w.heap.size < W.heap.size) := Lib.hid (by rw [← eW]; simp)
  have HS := Lib.hid (h.below hb0 (Nat.le_refl _))
  have HG := Lib.hid hg
  have HN := Lib.hid (numP_any n W (by have := hg.lo; omega) (by have := hg.hi; omega))
  have zN : (bstr (dd n)).size ≤ 10001 := by rw [bstr_size]; exact dd_len (by have := hg.hi; omega)
  generalize eD : bstr (dd n) = DN at *
  have ED := Lib.hid eD
  clear h hg eD
  have c0 := C0.out
  have c1 := C1.out
  go_enter Tryd.func27, Tryd.ntmps27
  go_wp2_with fail
  clear eW c0 c1
  refine HN.out.mono ?_
  rintro e w1 ⟨rfl, b1⟩
  have c1 := (b1.cell (p := ⟨w.heap.size, 1, none⟩) ZW.out).trans C1.out
  have hb1 := nxt hb0 b1
  have HX := Lib.hid (HS.out.below b1 (Nat.le_refl _))
  clear b1 hb0 HS HN
  go_wp2_with fail
  clear c1
  go_loopw [3, 15] (fun t i wr => ∃ (k : Nat) (S : ByteArray), k ≤ Ls.length ∧ i = .int .i64 k ∧ t = .string S ∧ S.size ≤ 20000 + 1300000 * k ∧ Hid (S = bstr (dd n ++ [35] ++ txtL Ls k)) ∧ Below w1.heap.size w1 wr) (fun _ i _ => Ls.length - (intOf i).toNat)
  case atStart => exact ⟨0, _, Nat.zero_le _, rfl, rfl, by rw [ByteArray.size_append, z1b]; omega, Lib.hid (by rw [txtL_zero, List.append_nil, ← ED.out, b35, bstr_app]), Below.refl _ _⟩
  case round =>
    obtain ⟨k, S, hk, rfl, rfl, hsz, HA, hB⟩ := hrel
    by_cases hlt : k < Ls.length
    · obtain ⟨b, off, rfl, hbl, hr⟩ := svv_row HX.out (by omega)
      obtain ⟨u, hu, hs⟩ := hr k hlt
      have hcell := (hB.cell (p := ⟨b, off + k, none⟩) hbl).trans hu
      have hs2 := hs.below hB (Nat.le_refl _)
      have hrow := HG.out.row hlt
      have hris := HG.out.ris k hlt
      have hn2 := HG.out.hi
      have HL0 := Lib.hid hlt
      obtain ⟨p2, cap2, rfl, hc⟩ := hs2
      have eR : Ls.getD k [] = rowL Ls k := rfl
      rw [eR] at hrow hris
      generalize eX : rowL Ls k = xs at *
      have EX := Lib.hid eX
      clear hu hs hr eR eX
      by_cases h0 : k = 0
      · have hk0 : ¬ (0 : Int) < (k : Int) := by omega
        have hkn : ¬ 0 < k := by omega
        have H0 := Lib.hid h0
        clear h0
        by_cases he : xs.length = 0
        · have hbe : (((xs.length : Nat) : Int) == 0) = true := by rw [beq_iff_eq]; omega
          have hlz : ¬ (0 : Int) < ((xs.length : Nat) : Int) := by omega
          have HE := Lib.hid he
          clear hc he
          go_wp2_with fail
          refine wp_loop_rounds 1 ?_
          rw [rounds_succ]
          go_wp2_with fail
          go_roundw
          case rel => exact ⟨k + 1, _, by omega, by go_num, rfl, by simp only [ByteArray.size_append, z1b]; omega, Lib.hid (by have T := step0' H0.out HL0.out HA.out; rw [EX.out, rowT_none HE.out] at T; exact T), hB⟩
          case measure => simp [intOf]; omega
        · obtain ⟨b2, off2, rfl, hbl2, hc⟩ := hc (by omega)
          have HC := Lib.hid hc
          have HR := Lib.hid hris.1
          have hp : 0 < ((xs.length : Nat) : Int) := by omega
          have hbe : (((xs.length : Nat) : Int) == 0) = false := by rw [beq_eq_false_iff_ne]; omega
          clear hc hris
          go_wp2_with fail
          go_loopw [3, 31] (fun t i wq => ∃ (j : Nat) (T : ByteArray), j ≤ xs.length ∧ i = .int .i64 j ∧ t = .string T ∧ T.size ≤ S.size + 10002 * j ∧ Hid (T = S ++ bstr (txtD xs j)) ∧ Below wr.heap.size wr wq) (fun _ i _ => xs.length - (intOf i).toNat)
          case atStart => exact ⟨0, _, Nat.zero_le _, rfl, rfl, by omega, Lib.hid (by rw [txtD_zero, bstr_nil]), Below.refl _ _⟩
          case round =>
            obtain ⟨j, T, hj, rfl, rfl, htz, HAT, hBq⟩ := hrel
            have zS : S.size ≤ 20001 + 1300000 * k := by omega
            by_cases hjl : j < xs.length
            · have hcx := (hBq.cell (p := ⟨b2, off2 + j, none⟩) hbl2).trans (HC.out j hjl)
              have hin := HR.out j hjl
              obtain ⟨x, ex⟩ : ∃ x, xs.getD j 0 = x := ⟨_, rfl⟩
              rw [ex] at hcx hin
              have hN := fun w => numP_any x w hin.1 (by omega)
              have hdz : (bstr (dd x)).size ≤ 10001 := by rw [bstr_size]; exact dd_len (by omega)
              obtain ⟨D, eD⟩ : ∃ D, bstr (dd x) = D := ⟨_, rfl⟩
              rw [eD] at hN hdz
              have HNx : ∀ w, Hid _ := fun w => Lib.hid (hN w)
              have EXx := Lib.hid ex
              have EDx := Lib.hid eD
              clear hN ex eD hin
              by_cases hj0 : j = 0
              · subst hj0
                simp only [Nat.add_zero] at hcx
                go_wp2_with (go_at_call 54; refine ((HNx _).out).mono ?_; rintro e wz ⟨rfl, bz⟩)
                go_roundw
                case rel => exact ⟨0 + 1, T ++ D, by omega, by go_num, rfl, by rw [ByteArray.size_append]; omega, Lib.hid (by rw [HAT.out, txtD_zero, bstr_nil, txtD_one hjl EXx.out, EDx.out]), nxt hBq bz⟩
                case measure => simp [intOf]; omega
              · have hj1 : 0 < (j : Int) := by omega
                go_wp2_with (go_at_call 54; refine ((HNx _).out).mono ?_; rintro e wz ⟨rfl, bz⟩)
                go_roundw
                case rel => exact ⟨j + 1, T ++ ⟨#[46]⟩ ++ D, by omega, by go_num, rfl, by rw [ByteArray.size_append, ByteArray.size_append, z1b]; omega, Lib.hid (stepD (by omega) hjl EXx.out HAT.out EDx.out), nxt hBq bz⟩
                case measure => simp [intOf]; omega
            · obtain rfl : j = xs.length := by omega
              have zT : T.size ≤ 20001 + 1300000 * k + 10002 * 128 := by omega
              have zU : T.size ≤ 20000 + 1300000 * (k + 1) := Nat.le_trans zT (by rw [Nat.mul_add, Nat.mul_one]; clear zT htz hsz; omega)
              clear htz zT
              go_wp2_with fail
              go_roundw
              case rel => exact ⟨k + 1, T, by omega, by go_num, rfl, zU, Lib.hid (by have Q := step0' H0.out HL0.out HA.out; rw [EX.out, rowT_some he] at Q; rw [HAT.out]; exact Q), nxt hB hBq⟩
              case measure => simp [intOf]; omega
      · have hk0 : 0 < (k : Int) := by omega
        have hkn : 0 < k := by omega
        by_cases he : xs.length = 0
        · have hbe : (((xs.length : Nat) : Int) == 0) = true := by rw [beq_iff_eq]; omega
          have hlz : ¬ (0 : Int) < ((xs.length : Nat) : Int) := by omega
          have HE := Lib.hid he
          clear hc he
          go_wp2_with fail
          refine wp_loop_rounds 1 ?_
          rw [rounds_succ]
          go_wp2_with fail
          go_roundw
          case rel => exact ⟨k + 1, _, by omega, by go_num, rfl, by simp only [ByteArray.size_append, z1b]; omega, Lib.hid (by have T := stepk (by omega) HL0.out HA.out; rw [EX.out, rowT_none HE.out] at T; exact T), hB⟩
          case measure => simp [intOf]; omega
        · obtain ⟨b2, off2, rfl, hbl2, hc⟩ := hc (by omega)
          have HC := Lib.hid hc
          have HR := Lib.hid hris.1
          have hp : 0 < ((xs.length : Nat) : Int) := by omega
          have hbe : (((xs.length : Nat) : Int) == 0) = false := by rw [beq_eq_false_iff_ne]; omega
          clear hc hris
          go_wp2_with fail
          go_loopw [3, 31] (fun t i wq => ∃ (j : Nat) (T : ByteArray), j ≤ xs.length ∧ i = .int .i64 j ∧ t = .string T ∧ T.size ≤ (S ++ (⟨#[44]⟩ : ByteArray)).size + 10002 * j ∧ Hid (T = (S ++ (⟨#[44]⟩ : ByteArray)) ++ bstr (txtD xs j)) ∧ Below wr.heap.size wr wq) (fun _ i _ => xs.length - (intOf i).toNat)
          case atStart => exact ⟨0, _, Nat.zero_le _, rfl, rfl, by omega, Lib.hid (by rw [txtD_zero, bstr_nil]), Below.refl _ _⟩
          case round =>
            obtain ⟨j, T, hj, rfl, rfl, htz, HAT, hBq⟩ := hrel
            have zS : (S ++ (⟨#[44]⟩ : ByteArray)).size ≤ 20001 + 1300000 * k := by rw [ByteArray.size_append, z1b]; omega
            by_cases hjl : j < xs.length
            · have hcx := (hBq.cell (p := ⟨b2, off2 + j, none⟩) hbl2).trans (HC.out j hjl)
              have hin := HR.out j hjl
              obtain ⟨x, ex⟩ : ∃ x, xs.getD j 0 = x := ⟨_, rfl⟩
              rw [ex] at hcx hin
              have hN := fun w => numP_any x w hin.1 (by omega)
              have hdz : (bstr (dd x)).size ≤ 10001 := by rw [bstr_size]; exact dd_len (by omega)
              obtain ⟨D, eD⟩ : ∃ D, bstr (dd x) = D := ⟨_, rfl⟩
              rw [eD] at hN hdz
              have HNx : ∀ w, Hid _ := fun w => Lib.hid (hN w)
              have EXx := Lib.hid ex
              have EDx := Lib.hid eD
              clear hN ex eD hin
              by_cases hj0 : j = 0
              · subst hj0
                simp only [Nat.add_zero] at hcx
                go_wp2_with (go_at_call 54; refine ((HNx _).out).mono ?_; rintro e wz ⟨rfl, bz⟩)
                go_roundw
                case rel => exact ⟨0 + 1, T ++ D, by omega, by go_num, rfl, by rw [ByteArray.size_append]; omega, Lib.hid (by rw [HAT.out, txtD_zero, bstr_nil, txtD_one hjl EXx.out, EDx.out]), nxt hBq bz⟩
                case measure => simp [intOf]; omega
              · have hj1 : 0 < (j : Int) := by omega
                go_wp2_with (go_at_call 54; refine ((HNx _).out).mono ?_; rintro e wz ⟨rfl, bz⟩)
                go_roundw
                case rel => exact ⟨j + 1, T ++ ⟨#[46]⟩ ++ D, by omega, by go_num, rfl, by rw [ByteArray.size_append, ByteArray.size_append, z1b]; omega, Lib.hid (stepD (by omega) hjl EXx.out HAT.out EDx.out), nxt hBq bz⟩
                case measure => simp [intOf]; omega
            · obtain rfl : j = xs.length := by omega
              have zT : T.size ≤ 20001 + 1300000 * k + 10002 * 128 := by omega
              have zU : T.size ≤ 20000 + 1300000 * (k + 1) := Nat.le_trans zT (by rw [Nat.mul_add, Nat.mul_one]; clear zT htz hsz; omega)
              clear htz zT
              go_wp2_with fail
              go_roundw
              case rel => exact ⟨k + 1, T, by omega, by go_num, rfl, zU, Lib.hid (by have Q := stepk (by omega) HL0.out HA.out; rw [EX.out, rowT_some he] at Q; rw [HAT.out]; exact Q), nxt hB hBq⟩
              case measure => simp [intOf]; omega
    · obtain rfl : k = Ls.length := by omega
      have R := Lib.hid (show S = bstr (txtC n Ls) from HA.out)
      go_wp2
      go_ret
      exact ⟨by rw [R.out]; rfl, nxt hb1 hB⟩
end Go.Proofs.YtgojlabkngnkdaaDoor
