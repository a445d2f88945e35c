/-
  IsSumCards in the model, by its contract. Condition: at most 2^40 lists of at most 2^40 numbers.
-/
import Derived.Test.YtmcbhpmkhbmlgaaKgk
import Derived.Deep.RegionHeld3
import Derived.Deep.CutRange
namespace Go.Proofs.Ytmcbhpmkhbmlgaa
open Go.RowKit

/-- The first k numbers are the sums of the first numbers of the cards that they are on. -/
def isTo (Ls : List (List Int)) (k : Nat) : Prop := ∀ x : Nat, x < k → fsV Ls (anW Ls (x : Nat)) = x
noncomputable def isB (n : Int) (Ls : List (List Int)) : Bool := caB n Ls && @decide (isTo Ls n.toNat) (Classical.propDecidable _)
theorem isTo_zero (Ls : List (List Int)) : isTo Ls 0 := fun x h => by omega
theorem isTo_succ {Ls : List (List Int)} {k : Nat} (h : isTo Ls k) (hk : fsV Ls (anW Ls (k : Nat)) = k) : isTo Ls (k + 1) := fun x hx => by
  by_cases e : x = k
  · subst e; exact hk
  · exact h x (by omega)
theorem isB_no {n : Int} {Ls : List (List Int)} {k : Nat} (hk : k < n.toNat) (h : ¬ fsV Ls (anW Ls (k : Nat)) = k) : isB n Ls = false := by
  simp only [isB, Bool.and_eq_false_iff, decide_eq_false_iff_not]; exact .inr fun g => h (g k hk)
theorem isB_yes {n : Int} {Ls : List (List Int)} (hg : caB n Ls = true) (h : isTo Ls n.toNat) : isB n Ls = true := by simp [isB, hg, h]
theorem box_at {W W' : World} {a : Nat} {x0 x1 : Value} (ha : a < W.heap.size) (h0 : W.cell? ⟨a, 0, none⟩ = some x0) (h1 : W.cell? ⟨a, 1, none⟩ = some x1) (k : Below W.heap.size W W') :
    W'.cell? ⟨a, 0, none⟩ = some x0 ∧ W'.cell? ⟨a, 1, none⟩ = some x1 ∧ Below W.heap.size W W' :=
  ⟨(k.cell (p := ⟨a, 0, none⟩) ha).trans h0, (k.cell (p := ⟨a, 1, none⟩) ha).trans h1, k⟩
theorem box_bel {W W' : World} (a : Nat) (x0 x1 : Value) (h : W'.cell? ⟨a, 0, none⟩ = some x0 ∧ W'.cell? ⟨a, 1, none⟩ = some x1 ∧ Below W.heap.size W W') : Below W.heap.size W W' := h.2.2

set_option maxHeartbeats 8000000 in
set_option maxRecDepth 20000 in
theorem specIsSumCards_any (n : Int) (v : Value) (Ls : List (List Int)) (w : World) (h : Svv w v Ls) (hl : Ls.length ≤ 1099511627776) (hx : ∀ j, j < Ls.length → (rowL Ls j).length ≤ 1099511627776) :
    Calls Try.prog 30 #[.agg #[.int .i64 n, v]] w fun e w' => e = .returned (.tuple #[.bool (isB n Ls), .bool (caB n Ls)]) ∧ Below w.heap.size w w' := by
  obtain ⟨p, cap, rfl⟩ := svv_form h
  have hb0 : Below w.heap.size w (w.alloc (.cells #[.int .i64 n, .slice p Ls.length cap] 36)) := (Below.refl _ w).alloc (Nat.le_refl _) _
  have hz : w.heap.size < (w.alloc (.cells #[.int .i64 n, .slice p Ls.length cap] 36)).heap.size := by simp
  have C0 := card_n w n (.slice p Ls.length cap)
  have C1 := card_v w n (.slice p Ls.length cap)
  have CG := caGood_any n _ Ls _ (h.below hb0 (Nat.le_refl _)) hl hx
  have H := Lib.hid h
  clear h hx
  cases hg : caB n Ls with
  | false =>
    rw [hg] at CG
    have CG2 := Lib.hid CG
    have RB : Hid (isB n Ls = false) := Lib.hid (by simp [isB, hg])
    clear hg CG
    go_enter Try.func30, Try.ntmps30
    go_wp2_with (go_at_call 55; refine CG2.out.mono ?_; rintro e w1 ⟨rfl, b1⟩; have B1 := nxt hb0 b1)
    go_ret2
    exact ⟨ret_bb RB.out.symm rfl, B1⟩
  | true =>
    rw [hg] at CG
    have CG2 := Lib.hid CG
    have G := caB_iff.1 hg
    have hl12 := G.len
    have hlo := G.lo
    have hhi := G.hi
    have HGB := Lib.hid hg
    obtain ⟨m, rfl⟩ : ∃ m : Nat, n = m := ⟨n.toNat, by omega⟩
    have AN := Lib.hid (fun (x : Int) (W : World) (hb : Below w.heap.size w W) => caAnswers_any (m : Int) x _ Ls W (H.out.below hb (Nat.le_refl _)) hl12 (card_rows G))
    have CF := Lib.hid (fun (x : Int) (W : World) (hb : Below w.heap.size w W) => caFirsts_any (m : Int) _ Ls (anW Ls x) W (H.out.below hb (Nat.le_refl _)) G (anW_len _ _))
    clear hg CG G
    go_enter Try.func30, Try.ntmps30
    go_wp2_with (go_at_call 55; refine CG2.out.mono ?_; rintro e w1 ⟨rfl, b1⟩; have B1 := nxt hb0 b1; have d0 := (b1.cell (p := ⟨w.heap.size, 0, none⟩) hz).trans C0; have d1 := (b1.cell (p := ⟨w.heap.size, 1, none⟩) hz).trans C1; have z1 := Nat.lt_of_lt_of_le hz b1.size)
    go_loopw [4] (fun i wr => ∃ k : Nat, k ≤ m ∧ i = .int .i64 k ∧ Hid (isTo Ls k) ∧ wr.cell? ⟨w.heap.size, 0, none⟩ = some (.int .i64 (m : Int)) ∧ wr.cell? ⟨w.heap.size, 1, none⟩ = some (.slice p Ls.length cap) ∧ Below w.heap.size w wr ∧ w.heap.size < wr.heap.size) (fun i _ => m - (intOf i).toNat)
    case atStart => exact ⟨0, Nat.zero_le _, rfl, Lib.hid (isTo_zero _), d0, d1, B1, z1⟩
    case round =>
      clear d0 d1 B1 z1 C0 C1
      obtain ⟨k, hk, rfl, HK, C0, C1, hb, hz⟩ := hrel
      by_cases hlt : k < m
      · have AN1 := Lib.hid (fun (W : World) (hb : Below w.heap.size w W) => AN.out (k : Int) W hb)
        have CF1 := Lib.hid (fun (W : World) (hb : Below w.heap.size w W) => CF.out (k : Int) W hb)
        obtain ⟨S, eS⟩ : ∃ S, bstr (anW Ls (k : Int)) = S := ⟨_, rfl⟩
        obtain ⟨y, ey⟩ : ∃ y, fsV Ls (anW Ls (k : Int)) = y := ⟨_, rfl⟩
        obtain ⟨q, eq⟩ : ∃ q, fsS Ls (anW Ls (k : Int)) = q := ⟨_, rfl⟩
        rw [eS] at AN1 CF1
        rw [ey, eq] at CF1
        have EY := Lib.hid ey
        have SA := fun (W' : World) hh => Lib.hid (box_at (W' := W') hz C0 C1 hh)
        clear AN CF eS ey eq
        go_upto_region 6 with (fail)
        clear C0 C1
        go_region_held3 (fun w' => w'.cell? ⟨w.heap.size, 0, none⟩ = some (.int .i64 (m : Int)) ∧ w'.cell? ⟨w.heap.size, 1, none⟩ = some (.slice p Ls.length cap) ∧ Below wr.heap.size wr w') ((first | assumption | exact (SA _ (below_drewN (Below.refl _ _) 1)).out | exact SB.out | exact SC.out)) ((first
          | (go_at_call 52; refine (AN1.out _ (nxt hb (box_bel w.heap.size (.int .i64 (m : Int)) (.slice p Ls.length cap) (by assumption)))).mono ?_; rintro e w6 ⟨rfl, b6⟩; have SB := SA w6 (nxt (box_bel w.heap.size (.int .i64 (m : Int)) (.slice p Ls.length cap) (by assumption)) b6); clear b6)
          | (go_at_call 54; refine (CF1.out _ (nxt hb SB.out.2.2)).mono ?_; rintro e w7 ⟨rfl, b7⟩; have SC := SA w7 (nxt SB.out.2.2 b7); clear b7)))
        all_goals
          have c0 := SC.out.1
          have c1 := SC.out.2.1
          have b7 := SC.out.2.2
          have z7 := Nat.lt_of_lt_of_le hz b7.size
          have B7 := nxt hb b7
          clear SA SB SC b7
          by_cases hy : y = (k : Int)
          · have HN := Lib.hid (isTo_succ HK.out (EY.out.trans hy))
            have d : (y != (k : Int)) = false := by simp [hy]
            go_wp2
            go_roundw
            case rel => exact ⟨k + 1, by omega, by go_num, HN, c0, c1, B7, z7⟩
            case measure => simp only [intOf]; omega
          · have HN := Lib.hid (isB_no (n := (m : Int)) (Ls := Ls) (k := k) (by omega) (fun g => hy (EY.out.symm.trans g)))
            have d : (y != (k : Int)) = true := by simp [hy]
            go_wp2
            go_ret2
            exact ⟨ret_bb HN.out.symm rfl, B7⟩
      · have hke : k = m := by omega
        subst hke
        have HN := Lib.hid (isB_yes HGB.out (by rw [Int.toNat_natCast]; exact HK.out))
        go_wp2
        go_ret2
        exact ⟨ret_bb HN.out.symm rfl, hb⟩
end Go.Proofs.Ytmcbhpmkhbmlgaa
