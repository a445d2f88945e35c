/-
  LeastApart and LiesFound in the program, by their contracts. Condition: at most 2^40 lists of at most 2^40 numbers.
-/
import Derived.Test.YtpolobjlihhjbaaQh
namespace Go.Proofs.Ytpolobjlihhjbaa
open Go.RowKit

set_option maxHeartbeats 8000000 in
set_option maxRecDepth 20000 in
theorem implLeastApart_any (n : Int) (v : Value) (Ls : List (List Int)) (w : World) (h : Svv w v Ls) (hl : Ls.length ≤ 1099511627776) (hx : ∀ j, j < Ls.length → (rowL Ls j).length ≤ 1099511627776) :
    Calls Try.prog 39 #[.agg #[.int .i64 n, v]] w fun e w' => e = .returned (.tuple #[.int .i64 (lpR n Ls), .bool (lpB n Ls)]) ∧ Below w.heap.size w w' := by
  obtain ⟨p, cap, rfl⟩ := svv_form h
  have hb0 : Below w.heap.size w (w.alloc (.cells #[.int .i64 n, .slice p Ls.length cap] 27)) := (Below.refl _ w).alloc (Nat.le_refl _) _
  have AC := implAreCards_any n _ Ls _ (h.below hb0 (Nat.le_refl _)) hl hx
  have C0 := card_n w n (.slice p Ls.length cap)
  have C1 := card_v w n (.slice p Ls.length cap)
  have H := Lib.hid h
  clear h hx
  cases hg : caB n Ls with
  | false =>
    rw [hg] at AC
    have AC := Lib.hid AC
    have LB : Hid (lpB n Ls = false) := Lib.hid (by unfold lpB; rw [hg]; rfl)
    have LR : Hid (lpR n Ls = 0) := Lib.hid (by unfold lpR; rw [LB.out]; rfl)
    clear hg
    go_enter Try.func39, Try.ntmps39
    go_wp2_with (go_at_call 23; refine AC.out.mono ?_; rintro e w1 ⟨rfl, b1⟩; have B1 := nxt hb0 b1)
    go_ret2
    exact ⟨ret_ib LR.out.symm LB.out.symm, B1⟩
  | true =>
    rw [hg] at AC
    have AC := Lib.hid AC
    have G := Lib.hid (caB_iff.1 hg)
    have hlo := G.out.lo
    have hhi := G.out.hi
    have hl12 := G.out.len
    by_cases h1 : n = 1
    · have LB : Hid (lpB n Ls = false) := Lib.hid (by unfold lpB; rw [hg, h1]; rfl)
      have LR : Hid (lpR n Ls = 0) := Lib.hid (by unfold lpR; rw [LB.out]; rfl)
      subst h1
      clear hg
      go_enter Try.func39, Try.ntmps39
      go_wp2_with (go_at_call 23; refine AC.out.mono ?_; rintro e w1 ⟨rfl, b1⟩; have B1 := nxt hb0 b1; have c0 := (b1.cell (p := ⟨w.heap.size, 0, none⟩) (by simp)).trans C0; have c1 := (b1.cell (p := ⟨w.heap.size, 1, none⟩) (by simp)).trans C1)
      go_ret2
      exact ⟨ret_ib LR.out.symm LB.out.symm, B1⟩
    · have LB : Hid (lpB n Ls = true) := Lib.hid (by unfold lpB; rw [hg]; simpa using h1)
      have LR : Hid (lpR n Ls = lsX Ls n.toNat) := Lib.hid (by unfold lpR; rw [LB.out]; rfl)
      have d1 : (n == 1) = false := by simpa using h1
      obtain ⟨m, rfl⟩ : ∃ m : Nat, n = m := ⟨n.toNat, by omega⟩
      rw [Int.toNat_natCast] at LR
      have LX := Lib.hid (ls_begin (Ls := Ls) hl12 (n := m) (by omega))
      have AIN := Lib.hid (fun (x : Int) => anP_in Ls x)
      obtain ⟨ps, eps⟩ : ∃ ps, Ls.map inL = ps := ⟨_, rfl⟩
      have PL : Hid (ps.length = Ls.length) := Lib.hid (by rw [← eps]; simp)
      have EPS := Lib.hid eps
      have L2 : ps.length ≤ 12 := by rw [PL.out]; exact hl12
      rw [eps] at AIN
      clear hg eps
      go_enter Try.func39, Try.ntmps39
      go_wp2_with (first
        | (go_at_call 23; refine AC.out.mono ?_; rintro e w1 ⟨rfl, b1⟩; have B1 := nxt hb0 b1; have d0 := (b1.cell (p := ⟨w.heap.size, 0, none⟩) (by simp)).trans C0; have d1 := (b1.cell (p := ⟨w.heap.size, 1, none⟩) (by simp)).trans C1)
        | (go_at_call 77; refine (deckOf_any (m : Int) _ Ls _ (H.out.below B1 (Nat.le_refl _)) G.out).mono ?_; rintro e w2 ⟨s, rfl, o2, b2⟩; rw [EPS.out] at o2; have B2 := nxt B1 b2; have D2 := o2.dr; obtain ⟨sp, sc, rfl⟩ := D2.form; clear o2))
      have HD := Lib.hid D2
      have hbX : Below w2.heap.size w2 (w2.alloc (.cells #[.int .i64 (m : Int), .slice sp ps.length sc] 68)) := (Below.refl _ _).alloc (Nat.le_refl _) _
      have e0 := deck_n w2 (m : Int) (.slice sp ps.length sc)
      have e1 := deck_s w2 (m : Int) (.slice sp ps.length sc)
      have ez : w2.heap.size < (w2.alloc (.cells #[.int .i64 (m : Int), .slice sp ps.length sc] 68)).heap.size := by simp
      clear d0 d1 C0 C1 D2
      have bd := fun k => lsS_bd (Ls := Ls) (s := (Ls.length : Int)) (by omega) k
      have BD := Lib.hid bd
      clear bd
      go_loopw [5, 26] (fun t x wr => ∃ k : Nat, k ≤ m ∧ x = .int .i64 k ∧ t = .int .i64 (lsS Ls Ls.length k) ∧ wr.cell? ⟨w2.heap.size, 0, none⟩ = some (.int .i64 (m : Int)) ∧ wr.cell? ⟨w2.heap.size, 1, none⟩ = some (.slice sp ps.length sc) ∧ Below w2.heap.size w2 wr ∧ w2.heap.size < wr.heap.size) (fun _ x _ => m - (intOf x).toNat)
      case atStart => exact ⟨0, Nat.zero_le _, rfl, by rw [← PL.out]; rfl, e0, e1, hbX, ez⟩
      case round =>
        clear e0 e1 hbX ez
        obtain ⟨k, hk, rfl, rfl, e0, e1, hb, hz⟩ := hrel
        by_cases hlt : k < m
        · have hk0 : (0 : Int) ≤ (k : Int) := by omega
          have hk1 : (k : Int) ≤ 127 := by omega
          have AO := Lib.hid (answersOf_any (m : Int) (k : Int) _ ps wr (HD.out.below hb (Nat.le_refl _)) L2 hk0 hk1)
          rw [AIN.out] at AO
          have LF := fun (j : Nat) (hj : (j : Int) ≤ 127) (W : World) (hW : Below w2.heap.size w2 W) => liesFor_any (m : Int) (j : Int) _ ps (anW Ls (k : Nat)) W (HD.out.below hW (Nat.le_refl _)) L2 (by omega) hj (anW_yn _ _) (by rw [anW_len]; exact PL.out.symm)
          have LF := Lib.hid LF
          obtain ⟨S, eS⟩ : ∃ S, bstr (anW Ls (k : Nat)) = S := ⟨_, rfl⟩
          rw [eS] at AO LF
          have bk := BD.out k
          obtain ⟨Y, eY⟩ : ∃ Y, lsS Ls Ls.length k = Y := ⟨_, rfl⟩
          have LN : Hid (lsS Ls Ls.length (k + 1) = lsJ Ls k Y k) := Lib.hid (by rw [← eY]; rfl)
          rw [eY] at bk ⊢
          have LB2 := Lib.hid (fun j => lsJ_bd Ls k (m := Y) ⟨bk.1, by omega⟩ j)
          clear eY bk
          clear eS
          go_wp2_with (go_at_call 78; refine AO.out.mono ?_; rintro e w5 ⟨rfl, b5⟩; have B5 := nxt hb b5; have i0 := (b5.cell (p := ⟨w2.heap.size, 0, none⟩) hz).trans e0; have i1 := (b5.cell (p := ⟨w2.heap.size, 1, none⟩) hz).trans e1; have z5 := Nat.lt_of_lt_of_le hz b5.size)
          go_loopw [5, 33] (fun t x wj => ∃ j : Nat, j ≤ k ∧ x = .int .i64 j ∧ t = .int .i64 (lsJ Ls k Y j) ∧ wj.cell? ⟨w2.heap.size, 0, none⟩ = some (.int .i64 (m : Int)) ∧ wj.cell? ⟨w2.heap.size, 1, none⟩ = some (.slice sp ps.length sc) ∧ Below w2.heap.size w2 wj ∧ w2.heap.size < wj.heap.size) (fun _ x _ => k - (intOf x).toNat)
          case atStart => exact ⟨0, Nat.zero_le _, rfl, rfl, i0, i1, B5, z5⟩
          case round =>
            clear i0 i1 B5 z5 e0 e1 hb hz
            obtain ⟨j, hj, rfl, rfl, e0, e1, hb, hz⟩ := hrel
            by_cases hjl : j < k
            · have LJ := LF.out j (by omega) wr hb
              have bj := LB2.out j
              obtain ⟨bj0, bj1⟩ := bj
              have zb := apK_le (anP ps (j : Nat)) (anW Ls (k : Nat)) ps.length
              have LK : Hid (lsJ Ls k Y (j + 1) = min (lsJ Ls k Y j) (apK (anP ps (j : Nat)) (anW Ls (k : Nat)) ps.length)) := Lib.hid (by rw [AIN.out, PL.out, apK_comm]; rfl)
              obtain ⟨y, ey⟩ : ∃ y, lsJ Ls k Y j = y := ⟨_, rfl⟩
              obtain ⟨z, ez⟩ : ∃ z, apK (anP ps (j : Nat)) (anW Ls (k : Nat)) ps.length = z := ⟨_, rfl⟩
              obtain ⟨q, eq⟩ : ∃ q, laK (anP ps (j : Nat)) (anW Ls (k : Nat)) ps.length = q := ⟨_, rfl⟩
              rw [ey, ez] at LK
              rw [ez, eq] at LJ
              rw [ez] at zb
              rw [ey] at bj0 bj1 ⊢
              have HLJ := Lib.hid LJ
              clear ey ez eq LJ
              go_wp2_with (go_at_call 83; refine HLJ.out.mono ?_; rintro e w6 ⟨rfl, b6⟩; have B6 := nxt hb b6; have i0 := (b6.cell (p := ⟨w2.heap.size, 0, none⟩) hz).trans e0; have i1 := (b6.cell (p := ⟨w2.heap.size, 1, none⟩) hz).trans e1; have z6 := Nat.lt_of_lt_of_le hz b6.size)
              all_goals
                go_roundw
                case rel => exact ⟨j + 1, by omega, by go_num, by rw [LK.out], i0, i1, B6, z6⟩
                case measure => simp only [intOf]; omega
            · have hje : j = k := by omega
              subst hje
              go_wp2
              go_roundw
              case rel => exact ⟨j + 1, by omega, by go_num, by rw [LN.out], e0, e1, hb, hz⟩
              case measure => simp only [intOf]; omega
        · have hke : k = m := by omega
          subst hke
          go_wp2
          go_ret2
          exact ⟨ret_ib (by rw [LR.out, LX.out]) LB.out.symm, nxt B2 hb⟩

set_option maxHeartbeats 2000000 in
theorem implLiesFound_any (n : Int) (v : Value) (Ls : List (List Int)) (w : World) (h : Svv w v Ls) (hl : Ls.length ≤ 1099511627776) (hx : ∀ j, j < Ls.length → (rowL Ls j).length ≤ 1099511627776) :
    Calls Try.prog 41 #[.agg #[.int .i64 n, v]] w fun e w' => e = .returned (.tuple #[.int .i64 (lfR n Ls), .bool (lpB n Ls)]) ∧ Below w.heap.size w w' := by
  obtain ⟨p, cap, rfl⟩ := svv_form h
  have hb0 : Below w.heap.size w (w.alloc (.cells #[.int .i64 n, .slice p Ls.length cap] 27)) := (Below.refl _ w).alloc (Nat.le_refl _) _
  have LA := Lib.hid (implLeastApart_any n _ Ls _ (h.below hb0 (Nat.le_refl _)) hl hx)
  have bd := lsX_bd Ls n.toNat
  have LF : Hid (lfR n Ls = if lpB n Ls = true then max 0 (lsX Ls n.toNat - 1) / 2 else 0) := Lib.hid rfl
  have LP : Hid (lpR n Ls = if lpB n Ls = true then lsX Ls n.toNat else 0) := Lib.hid rfl
  obtain ⟨y, ey⟩ : ∃ y, lpR n Ls = y := ⟨_, rfl⟩
  have YB : 0 ≤ y ∧ y ≤ 13 := by rw [← ey, LP.out]; split <;> omega
  have YF : Hid (lfR n Ls = max (y - 1) 0 / 2) := Lib.hid (by
    rw [LF.out, ← ey, LP.out]
    split
    · congr 1; omega
    · decide)
  rw [ey] at LA
  obtain ⟨y0, y1⟩ := YB
  clear h hx ey LF LP bd
  go_enter Try.func41, Try.ntmps41
  go_wp2_with (go_at_call 39; refine LA.out.mono ?_; rintro e w1 ⟨rfl, b1⟩; have B1 := nxt hb0 b1)
  all_goals
    go_ret2
    exact ⟨ret_ib (by rw [YF.out]; try omega) rfl, B1⟩
end Go.Proofs.Ytpolobjlihhjbaa
