/-
  IsSumCards in the program, by its contract. Condition: at most 2^40 lists of at most 2^40 numbers.
-/
import Derived.Test.YtmcbhpmkhbmlgaaQh
import Derived.Test.YtmcbhpmkhbmlgaaQk
import Derived.Test.YtmcbhpmkhbmlgaaKgm
import Derived.Test.YtmcbhpmkhbmlgaaQcs
namespace Go.Proofs.Ytmcbhpmkhbmlgaa
open Go.RowKit

theorem ask_an {n : Int} {Ls : List (List Int)} (g : CaG n Ls) (x : Int) : askB n Ls (anW Ls x) = true := askB_iff.2 ⟨g, anW_len _ _, anW_yn _ _⟩

set_option maxHeartbeats 8000000 in
set_option maxRecDepth 20000 in
theorem implIsSumCards_any (n : Int) (v : Value) (Ls : List (List Int)) (w : World) (h : Svv w v Ls) (hl : Ls.length ≤ 1099511627776) (hx : ∀ j, j < Ls.length → (rowL Ls j).length ≤ 1099511627776) :
    Calls Try.prog 31 #[.agg #[.int .i64 n, v]] w fun e w' => e = .returned (.tuple #[.bool (isB n Ls), .bool (caB n Ls)]) ∧ Below w.heap.size w w' := by
  obtain ⟨p, cap, rfl⟩ := svv_form h
  have hb0 : Below w.heap.size w (w.alloc (.cells #[.int .i64 n, .slice p Ls.length cap] 36)) := (Below.refl _ w).alloc (Nat.le_refl _) _
  have hz : w.heap.size < (w.alloc (.cells #[.int .i64 n, .slice p Ls.length cap] 36)).heap.size := by simp
  have C0 := card_n w n (.slice p Ls.length cap)
  have C1 := card_v w n (.slice p Ls.length cap)
  have CG := implAreCards_any n _ Ls _ (h.below hb0 (Nat.le_refl _)) hl hx
  have H := Lib.hid h
  clear h hx
  cases hg : caB n Ls with
  | false =>
    rw [hg] at CG
    have CG2 := Lib.hid CG
    have RB : Hid (isB n Ls = false) := Lib.hid (by simp [isB, hg])
    clear hg CG
    go_enter Try.func31, Try.ntmps31
    go_wp2_with (go_at_call 46; refine CG2.out.mono ?_; rintro e w1 ⟨rfl, b1⟩; have B1 := nxt hb0 b1)
    go_ret2
    exact ⟨ret_bb RB.out.symm rfl, B1⟩
  | true =>
    rw [hg] at CG
    have CG2 := Lib.hid CG
    have G := caB_iff.1 hg
    have hl12 := G.len
    have hlo := G.lo
    have hhi := G.hi
    have HGB := Lib.hid hg
    obtain ⟨m, rfl⟩ : ∃ m : Nat, n = m := ⟨n.toNat, by omega⟩
    have AIN := fun (x : Int) => anP_in Ls x
    have DO := fun (W : World) (hb : Below w.heap.size w W) => deckOf_any (m : Int) _ Ls W (H.out.below hb (Nat.le_refl _)) G
    have CF := Lib.hid (fun (x : Int) (W : World) (hb : Below w.heap.size w W) => implFirstsSum_any (m : Int) _ Ls (anW Ls x) W (H.out.below hb (Nat.le_refl _)) hl (card_rows G))
    have FU : Hid (∀ x, fuR (m : Int) Ls (anW Ls x) = fsV Ls (anW Ls x)) := Lib.hid (fun x => by simp [fuR, ask_an G])
    obtain ⟨ps, eps⟩ : ∃ ps, Ls.map inL = ps := ⟨_, rfl⟩
    have L2 : ps.length ≤ 12 := by rw [← eps, map_len]; exact hl12
    rw [eps] at AIN DO
    have DO2 := Lib.hid DO
    have AO := Lib.hid (fun (x : Int) (W : World) (v : Value) (hd : Dr W v ps) (h0 : 0 ≤ x) (h1 : x ≤ 127) => answersOf_any (m : Int) x v ps W hd L2 h0 h1)
    have AI := Lib.hid AIN
    clear eps DO AIN
    clear hg CG G
    go_enter Try.func31, Try.ntmps31
    go_wp2_with (first
      | (go_at_call 46; refine CG2.out.mono ?_; rintro e w1 ⟨rfl, b1⟩; have B1 := nxt hb0 b1; have d0 := (b1.cell (p := ⟨w.heap.size, 0, none⟩) hz).trans C0; have d1 := (b1.cell (p := ⟨w.heap.size, 1, none⟩) hz).trans C1; have z1 := Nat.lt_of_lt_of_le hz b1.size)
      | (go_at_call 48; refine (DO2.out _ B1).mono ?_; rintro e w2 ⟨sd, rfl, o2, b2⟩; have B2 := nxt B1 b2; have e0 := (b2.cell (p := ⟨w.heap.size, 0, none⟩) z1).trans d0; have e1 := (b2.cell (p := ⟨w.heap.size, 1, none⟩) z1).trans d1; have z2 := Nat.lt_of_lt_of_le z1 b2.size; have D2 := Lib.hid o2.dr; obtain ⟨sp, sc, rfl⟩ := o2.dr.form; clear o2))
    have bbx : Below w2.heap.size w2 (w2.alloc (.cells #[.int .i64 (m : Int), .slice sp ps.length sc] 64)) := (Below.refl _ _).alloc (Nat.le_refl _) _
    have g0 := deck_n w2 (m : Int) (.slice sp ps.length sc)
    have g1 := deck_s w2 (m : Int) (.slice sp ps.length sc)
    have zbx : w2.heap.size < (w2.alloc (.cells #[.int .i64 (m : Int), .slice sp ps.length sc] 64)).heap.size := by simp
    have d0 := (bbx.cell (p := ⟨w.heap.size, 0, none⟩) z2).trans e0
    have d1 := (bbx.cell (p := ⟨w.heap.size, 1, none⟩) z2).trans e1
    have HW2 := Lib.hid z2
    have HB2 := Lib.hid B2
    clear e0 e1 C0 C1 B1 z1 hz B2 z2
    go_loopw [15] (fun i wr => ∃ k : Nat, k ≤ m ∧ i = .int .i64 k ∧ Hid (isTo Ls k) ∧ wr.cell? ⟨w.heap.size, 0, none⟩ = some (.int .i64 (m : Int)) ∧ wr.cell? ⟨w.heap.size, 1, none⟩ = some (.slice p Ls.length cap) ∧ wr.cell? ⟨w2.heap.size, 0, none⟩ = some (.int .i64 (m : Int)) ∧ wr.cell? ⟨w2.heap.size, 1, none⟩ = some (.slice sp ps.length sc) ∧ Below w2.heap.size w2 wr ∧ w2.heap.size < wr.heap.size) (fun i _ => m - (intOf i).toNat)
    case atStart => exact ⟨0, Nat.zero_le _, rfl, Lib.hid (isTo_zero _), d0, d1, g0, g1, bbx, zbx⟩
    case round =>
      clear d0 d1 g0 g1 bbx zbx
      obtain ⟨k, hk, rfl, HK, C0, C1, D0, D1, hb, hz⟩ := hrel
      by_cases hlt : k < m
      · have hk0 : (0 : Int) ≤ (k : Int) := by omega
        have hk1 : (k : Int) ≤ 127 := by omega
        have AN1 := fun (W : World) (hW : Below wr.heap.size wr W) => AO.out (k : Int) W _ (D2.out.below (nxt hb hW) (Nat.le_refl _)) hk0 hk1
        rw [AI.out] at AN1
        have CF1 := fun (W : World) (hW : Below wr.heap.size wr W) => CF.out (k : Int) W (nxt HB2.out (nxt hb hW))
        rw [FU.out] at CF1
        obtain ⟨S, eS⟩ : ∃ S, bstr (anW Ls (k : Int)) = S := ⟨_, rfl⟩
        obtain ⟨y, ey⟩ : ∃ y, fsV Ls (anW Ls (k : Int)) = y := ⟨_, rfl⟩
        obtain ⟨q, eq⟩ : ∃ q, fuB (m : Int) Ls (anW Ls (k : Int)) = q := ⟨_, rfl⟩
        rw [eS] at AN1 CF1
        rw [ey, eq] at CF1
        have EY := Lib.hid ey
        have A2 := Lib.hid AN1
        have F2 := Lib.hid CF1
        have hw2 : w.heap.size < wr.heap.size := Nat.lt_trans HW2.out hz
        have SA := fun (W' : World) hh => Lib.hid (two_at (W' := W') hw2 hz C0 C1 D0 D1 hh)
        clear AN1 CF1 eS ey eq
        go_upto_region 7 with (fail)
        clear C0 C1 D0 D1
        go_region_held3 (fun w' => w'.cell? ⟨w.heap.size, 0, none⟩ = some (.int .i64 (m : Int)) ∧ w'.cell? ⟨w.heap.size, 1, none⟩ = some (.slice p Ls.length cap) ∧ w'.cell? ⟨w2.heap.size, 0, none⟩ = some (.int .i64 (m : Int)) ∧ w'.cell? ⟨w2.heap.size, 1, none⟩ = some (.slice sp ps.length sc) ∧ Below wr.heap.size wr w') ((first | assumption | exact (SA _ (below_drewN (Below.refl _ _) 1)).out | exact SB.out | exact SC.out)) ((first
          | (go_at_call 56; refine (A2.out _ (two_bel w.heap.size w2.heap.size (.int .i64 (m : Int)) (.slice p Ls.length cap) (.int .i64 (m : Int)) (.slice sp ps.length sc) (by assumption))).mono ?_; rintro e w6 ⟨rfl, b6⟩; have SB := SA w6 (nxt (two_bel w.heap.size w2.heap.size (.int .i64 (m : Int)) (.slice p Ls.length cap) (.int .i64 (m : Int)) (.slice sp ps.length sc) (by assumption)) b6); clear b6)
          | (go_at_call 29; refine (F2.out _ SB.out.2.2.2.2).mono ?_; rintro e w7 ⟨rfl, b7⟩; have SC := SA w7 (nxt SB.out.2.2.2.2 b7); clear b7)))
        all_goals
          have c0 := SC.out.1
          have c1 := SC.out.2.1
          have f0 := SC.out.2.2.1
          have f1 := SC.out.2.2.2.1
          have b7 := SC.out.2.2.2.2
          have z7 := Nat.lt_of_lt_of_le hz b7.size
          have B7 := nxt hb b7
          clear SA SB SC b7 A2 F2
          by_cases hy : y = (k : Int)
          · have HN := Lib.hid (isTo_succ HK.out (EY.out.trans hy))
            have d : (y != (k : Int)) = false := by simp [hy]
            go_wp2
            go_roundw
            case rel => exact ⟨k + 1, by omega, by go_num, HN, c0, c1, f0, f1, B7, z7⟩
            case measure => simp only [intOf]; omega
          · have HN := Lib.hid (isB_no (n := (m : Int)) (Ls := Ls) (k := k) (by omega) (fun g => hy (EY.out.symm.trans g)))
            have d : (y != (k : Int)) = true := by simp [hy]
            go_wp2
            go_ret2
            exact ⟨ret_bb HN.out.symm rfl, nxt HB2.out B7⟩
      · have hke : k = m := by omega
        subst hke
        have HN := Lib.hid (isB_yes HGB.out (by rw [Int.toNat_natCast]; exact HK.out))
        go_wp2
        go_ret2
        exact ⟨ret_bb HN.out.symm rfl, nxt HB2.out hb⟩
end Go.Proofs.Ytmcbhpmkhbmlgaa
