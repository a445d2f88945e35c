/-
  TellsAll, LeastApart and LiesFound in the model, by contracts. Conditions: at most 2^40 lists of at most 2^40 numbers.
-/
import Derived.Test.YtpolobjlihhjbaaKgg
namespace Go.Proofs.Ytpolobjlihhjbaa
open Go.RowKit

theorem ret_bb {a b c d : Bool} (h : a = b) (g : c = d) : Ending.returned (.tuple #[.bool a, .bool c]) = .returned (.tuple #[.bool b, .bool d]) := by rw [h, g]
theorem ret_ib {a b : Int} {c d : Bool} (h : a = b) (g : c = d) : Ending.returned (.tuple #[.int .i64 a, .bool c]) = .returned (.tuple #[.int .i64 b, .bool d]) := by rw [h, g]
theorem most_any (a b : Int) (w : World) : Calls Try.prog 84 #[.int .i64 a, .int .i64 b] w fun e w' => e = .returned (.int .i64 (max a b)) ∧ w = w' := by
  by_cases h : b < a
  · go_enter Try.func84, Try.ntmps84
    go_wp2
    go_ret
    exact ⟨ret_int (by omega), rfl⟩
  · go_enter Try.func84, Try.ntmps84
    go_wp2
    go_ret
    exact ⟨ret_int (by omega), rfl⟩
noncomputable def teB (n : Int) (Ls : List (List Int)) : Bool := caB n Ls && decide (0 < lsX Ls n.toNat)
noncomputable def lpB (n : Int) (Ls : List (List Int)) : Bool := caB n Ls && !(n == 1)
noncomputable def lpR (n : Int) (Ls : List (List Int)) : Int := if lpB n Ls = true then lsX Ls n.toNat else 0
noncomputable def lfR (n : Int) (Ls : List (List Int)) : Int := if lpB n Ls = true then max 0 (lsX Ls n.toNat - 1) / 2 else 0

set_option maxHeartbeats 2000000 in
set_option maxRecDepth 20000 in
theorem specTellsAll_any (n : Int) (v : Value) (Ls : List (List Int)) (w : World) (h : Svv w v Ls) (hl : Ls.length ≤ 1099511627776) (hx : ∀ j, j < Ls.length → (rowL Ls j).length ≤ 1099511627776) :
    Calls Try.prog 36 #[.agg #[.int .i64 n, v]] w fun e w' => e = .returned (.tuple #[.bool (teB n Ls), .bool (caB n Ls)]) ∧ Below w.heap.size w w' := by
  have hb0 : Below w.heap.size w (w.alloc (.cells #[.int .i64 n, v] 27)) := (Below.refl _ w).alloc (Nat.le_refl _) _
  have CG := caGood_any n v Ls _ (h.below hb0 (Nat.le_refl _)) hl hx
  have hz : w.heap.size < (w.alloc (.cells #[.int .i64 n, v] 27)).heap.size := by simp
  have k0 := card_n w n v
  have k1 := card_v w n v
  cases hg : caB n Ls with
  | false =>
    rw [hg] at CG
    have CG := Lib.hid CG
    have TE : Hid (teB n Ls = false) := Lib.hid (by unfold teB; rw [hg]; rfl)
    clear hg k0 k1
    go_enter Try.func36, Try.ntmps36
    go_wp2_with (go_at_call 64; refine CG.out.mono ?_; rintro e w1 ⟨rfl, b1⟩; have B1 := nxt hb0 b1)
    go_ret2
    exact ⟨ret_bb TE.out.symm rfl, B1⟩
  | true =>
    rw [hg] at CG
    have CG := Lib.hid CG
    have FA := fun W (hW : Below w.heap.size w W) => Lib.hid (caLeast_any n v Ls W (h.below hW (Nat.le_refl _)) (caB_iff.1 hg))
    have hbd := lsX_bd Ls n.toNat
    have TE : Hid (teB n Ls = decide (0 < lsX Ls n.toNat)) := Lib.hid (by unfold teB; rw [hg]; rfl)
    have HG := Lib.hid hg
    obtain ⟨y, ey⟩ : ∃ y, lsX Ls n.toNat = y := ⟨_, rfl⟩
    rw [ey] at FA hbd TE
    clear hg ey
    go_enter Try.func36, Try.ntmps36
    go_wp2_with (first
      | (go_at_call 64; refine CG.out.mono ?_; rintro e w1 ⟨rfl, b1⟩; have B1 := nxt hb0 b1; have c0 := (b1.cell (p := ⟨w.heap.size, 0, none⟩) hz).trans k0; have c1 := (b1.cell (p := ⟨w.heap.size, 1, none⟩) hz).trans k1; clear k0 k1)
      | (go_at_call 81; refine (FA _ B1).out.mono ?_; rintro e w3 ⟨rfl, b3⟩; have B3 := nxt B1 b3))
    go_ret2
    exact ⟨ret_bb TE.out.symm rfl, B3⟩

set_option maxHeartbeats 2000000 in
set_option maxRecDepth 20000 in
theorem specLeastApart_any (n : Int) (v : Value) (Ls : List (List Int)) (w : World) (h : Svv w v Ls) (hl : Ls.length ≤ 1099511627776) (hx : ∀ j, j < Ls.length → (rowL Ls j).length ≤ 1099511627776) :
    Calls Try.prog 38 #[.agg #[.int .i64 n, v]] w fun e w' => e = .returned (.tuple #[.int .i64 (lpR n Ls), .bool (lpB n Ls)]) ∧ Below w.heap.size w w' := by
  have hb0 : Below w.heap.size w (w.alloc (.cells #[.int .i64 n, v] 27)) := (Below.refl _ w).alloc (Nat.le_refl _) _
  have CG := caGood_any n v Ls _ (h.below hb0 (Nat.le_refl _)) hl hx
  have hz : w.heap.size < (w.alloc (.cells #[.int .i64 n, v] 27)).heap.size := by simp
  have k0 := card_n w n v
  have k1 := card_v w n v
  cases hg : caB n Ls with
  | false =>
    rw [hg] at CG
    have CG := Lib.hid CG
    have LB : Hid (lpB n Ls = false) := Lib.hid (by unfold lpB; rw [hg]; rfl)
    have LR : Hid (lpR n Ls = 0) := Lib.hid (by unfold lpR; rw [LB.out]; rfl)
    clear hg k0 k1
    go_enter Try.func38, Try.ntmps38
    go_wp2_with (go_at_call 64; refine CG.out.mono ?_; rintro e w1 ⟨rfl, b1⟩; have B1 := nxt hb0 b1)
    go_ret2
    exact ⟨ret_ib LR.out.symm LB.out.symm, B1⟩
  | true =>
    rw [hg] at CG
    have CG := Lib.hid CG
    have FA := fun W (hW : Below w.heap.size w W) => Lib.hid (caLeast_any n v Ls W (h.below hW (Nat.le_refl _)) (caB_iff.1 hg))
    have hbd := lsX_bd Ls n.toNat
    by_cases h1 : n = 1
    · have LB : Hid (lpB n Ls = false) := Lib.hid (by unfold lpB; rw [hg, h1]; rfl)
      have LR : Hid (lpR n Ls = 0) := Lib.hid (by unfold lpR; rw [LB.out]; rfl)
      subst h1
      clear hg FA hbd
      go_enter Try.func38, Try.ntmps38
      go_wp2_with (go_at_call 64; refine CG.out.mono ?_; rintro e w1 ⟨rfl, b1⟩; have B1 := nxt hb0 b1; have c0 := (b1.cell (p := ⟨w.heap.size, 0, none⟩) hz).trans k0; have c1 := (b1.cell (p := ⟨w.heap.size, 1, none⟩) hz).trans k1; clear k0 k1)
      go_ret2
      exact ⟨ret_ib LR.out.symm LB.out.symm, B1⟩
    · have LB : Hid (lpB n Ls = true) := Lib.hid (by unfold lpB; rw [hg]; simpa using h1)
      have LR : Hid (lpR n Ls = lsX Ls n.toNat) := Lib.hid (by unfold lpR; rw [LB.out]; rfl)
      have d1 : (n == 1) = false := by simpa using h1
      obtain ⟨y, ey⟩ : ∃ y, lsX Ls n.toNat = y := ⟨_, rfl⟩
      rw [ey] at FA hbd LR
      clear hg ey
      go_enter Try.func38, Try.ntmps38
      go_wp2_with (first
        | (go_at_call 64; refine CG.out.mono ?_; rintro e w1 ⟨rfl, b1⟩; have B1 := nxt hb0 b1; have c0 := (b1.cell (p := ⟨w.heap.size, 0, none⟩) hz).trans k0; have c1 := (b1.cell (p := ⟨w.heap.size, 1, none⟩) hz).trans k1; clear k0 k1)
        | (go_at_call 81; refine (FA _ B1).out.mono ?_; rintro e w3 ⟨rfl, b3⟩; have B3 := nxt B1 b3))
      go_ret2
      exact ⟨ret_ib LR.out.symm LB.out.symm, B3⟩

set_option maxHeartbeats 2000000 in
set_option maxRecDepth 20000 in
theorem specLiesFound_any (n : Int) (v : Value) (Ls : List (List Int)) (w : World) (h : Svv w v Ls) (hl : Ls.length ≤ 1099511627776) (hx : ∀ j, j < Ls.length → (rowL Ls j).length ≤ 1099511627776) :
    Calls Try.prog 40 #[.agg #[.int .i64 n, v]] w fun e w' => e = .returned (.tuple #[.int .i64 (lfR n Ls), .bool (lpB n Ls)]) ∧ Below w.heap.size w w' := by
  have hb0 : Below w.heap.size w (w.alloc (.cells #[.int .i64 n, v] 27)) := (Below.refl _ w).alloc (Nat.le_refl _) _
  have CG := caGood_any n v Ls _ (h.below hb0 (Nat.le_refl _)) hl hx
  have hz : w.heap.size < (w.alloc (.cells #[.int .i64 n, v] 27)).heap.size := by simp
  have k0 := card_n w n v
  have k1 := card_v w n v
  cases hg : caB n Ls with
  | false =>
    rw [hg] at CG
    have CG := Lib.hid CG
    have LB : Hid (lpB n Ls = false) := Lib.hid (by unfold lpB; rw [hg]; rfl)
    have LR : Hid (lfR n Ls = 0) := Lib.hid (by unfold lfR; rw [LB.out]; rfl)
    clear hg k0 k1
    go_enter Try.func40, Try.ntmps40
    go_wp2_with (go_at_call 64; refine CG.out.mono ?_; rintro e w1 ⟨rfl, b1⟩; have B1 := nxt hb0 b1)
    go_ret2
    exact ⟨ret_ib LR.out.symm LB.out.symm, B1⟩
  | true =>
    rw [hg] at CG
    have CG := Lib.hid CG
    have FA := fun W (hW : Below w.heap.size w W) => Lib.hid (caLeast_any n v Ls W (h.below hW (Nat.le_refl _)) (caB_iff.1 hg))
    have hbd := lsX_bd Ls n.toNat
    by_cases h1 : n = 1
    · have LB : Hid (lpB n Ls = false) := Lib.hid (by unfold lpB; rw [hg, h1]; rfl)
      have LR : Hid (lfR n Ls = 0) := Lib.hid (by unfold lfR; rw [LB.out]; rfl)
      subst h1
      clear hg FA hbd
      go_enter Try.func40, Try.ntmps40
      go_wp2_with (go_at_call 64; refine CG.out.mono ?_; rintro e w1 ⟨rfl, b1⟩; have B1 := nxt hb0 b1; have c0 := (b1.cell (p := ⟨w.heap.size, 0, none⟩) hz).trans k0; have c1 := (b1.cell (p := ⟨w.heap.size, 1, none⟩) hz).trans k1; clear k0 k1)
      go_ret2
      exact ⟨ret_ib LR.out.symm LB.out.symm, B1⟩
    · have LB : Hid (lpB n Ls = true) := Lib.hid (by unfold lpB; rw [hg]; simpa using h1)
      have LR : Hid (lfR n Ls = max 0 (lsX Ls n.toNat - 1) / 2) := Lib.hid (by unfold lfR; rw [LB.out]; rfl)
      have d1 : (n == 1) = false := by simpa using h1
      obtain ⟨y, ey⟩ : ∃ y, lsX Ls n.toNat = y := ⟨_, rfl⟩
      rw [ey] at FA hbd LR
      clear hg ey
      go_enter Try.func40, Try.ntmps40
      go_wp2_with (first
        | (go_at_call 64; refine CG.out.mono ?_; rintro e w1 ⟨rfl, b1⟩; have B1 := nxt hb0 b1; have c0 := (b1.cell (p := ⟨w.heap.size, 0, none⟩) hz).trans k0; have c1 := (b1.cell (p := ⟨w.heap.size, 1, none⟩) hz).trans k1; clear k0 k1)
        | (go_at_call 81; refine (FA _ B1).out.mono ?_; rintro e w3 ⟨rfl, b3⟩; have B3 := nxt B1 b3)
        | (go_at_call 84; refine (most_any _ _ _).mono ?_; rintro e w4 ⟨rfl, rfl⟩))
      go_ret2
      exact ⟨ret_ib (by rw [LR.out]) LB.out.symm, B3⟩

end Go.Proofs.Ytpolobjlihhjbaa
