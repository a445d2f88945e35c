/-
  A deck of cards in the program: whether it tells all, by contract. Conditions: at most 12 cards and 128 numbers.
-/
import Derived.Test.YtpolobjlihhjbaaQf
import Derived.Test.YtpolobjlihhjbaaQeq
import Derived.Deep.RegionHeld3
import Derived.Deep.CutRange
namespace Go.Proofs.Ytpolobjlihhjbaa
open Go.RowKit

/-- A box of two cells, carried along. -/
theorem one_at {W W' : World} {a : Nat} {x0 x1 : Value} (ha : a < W.heap.size) (h0 : W.cell? ⟨a, 0, none⟩ = some x0) (h1 : W.cell? ⟨a, 1, none⟩ = some x1) (k : Below W.heap.size W W') :
    W'.cell? ⟨a, 0, none⟩ = some x0 ∧ W'.cell? ⟨a, 1, none⟩ = some x1 ∧ Below W.heap.size W W' :=
  ⟨(k.cell (p := ⟨a, 0, none⟩) ha).trans h0, (k.cell (p := ⟨a, 1, none⟩) ha).trans h1, k⟩
theorem one_bel {W W' : World} (a : Nat) (x0 x1 : Value) (h : W'.cell? ⟨a, 0, none⟩ = some x0 ∧ W'.cell? ⟨a, 1, none⟩ = some x1 ∧ Below W.heap.size W W') : Below W.heap.size W W' := h.2.2
theorem sv_one (w : World) (x : Int) : Sv (w.alloc (.cells #[.int .i64 x] 3)) (.slice (some ⟨w.heap.size, 0, none⟩) 1 1) [x] := by
  have := src_one w x
  rcases this with ⟨e, _⟩ | ⟨b, off, c, e, hb, hc⟩
  · cases e
  · simp only [Value.slice.injEq, Option.some.injEq, Addr.mk.injEq] at e
    obtain ⟨⟨rfl, rfl, _⟩, _, rfl⟩ := e
    exact ⟨some ⟨w.heap.size, 0, none⟩, 1, rfl, fun _ => ⟨w.heap.size, 0, rfl, hb, hc⟩⟩
theorem sv_oned (w : World) (x : Int) : Sv (w.alloc (.cells #[.int .i64 x] 3)).drew (.slice (some ⟨w.heap.size, 0, none⟩) 1 1) [x] := (sv_one w x).below (Below.refl _ _).drew (Nat.le_refl _)
theorem one_bd {x : Int} (h0 : 0 ≤ x) (h1 : x ≤ 127) : ∀ j, j < [x].length → 0 ≤ [x].getD j 0 ∧ [x].getD j 0 ≤ 127 := fun j hj => by
  have e : j = 0 := by simp at hj; omega
  subst e
  exact ⟨h0, h1⟩
theorem same_ta {ps : List (Int → Bool)} {n : Int} {k : Nat} : sameB (wlP ps n (anP ps (k : Int)) 0) (inL [(k : Int)]) = true ↔ ∀ j : Nat, j < 128 → wlP ps n (anP ps (k : Int)) 0 j = decide ((j : Int) = (k : Int)) := by
  rw [sameB_iff]
  simp only [inL, List.mem_singleton]

set_option maxHeartbeats 8000000 in
set_option maxRecDepth 100000 in
theorem tellsAll_any (n : Int) (v : Value) (ps : List (Int → Bool)) (w : World) (h : Dr w v ps) (hl : ps.length ≤ 12) (h0 : 0 ≤ n) (h1 : n ≤ 128) :
    Calls Try.prog 82 #[.agg #[.int .i64 n, v]] w fun e w' => e = .returned (.bool (taB ps n)) ∧ Below w.heap.size w w' := by
  obtain ⟨p, cap, rfl⟩ := h.form
  obtain ⟨m, rfl⟩ : ∃ m : Nat, n = m := ⟨n.toNat, by omega⟩
  have hb0 : Below w.heap.size w (w.alloc (.cells #[.int .i64 (m : Int), .slice p ps.length cap] 68)) := (Below.refl _ w).alloc (Nat.le_refl _) _
  have C0 := deck_n w (m : Int) (.slice p ps.length cap)
  have C1 := deck_s w (m : Int) (.slice p ps.length cap)
  have H := Lib.hid h
  have eqg : ∀ (x y : Operand) (xs ys : Array Value) W, (eqGuard .neq 82 x y (.agg xs) (.agg ys)).run Try.prog W = .ok () W := fun x y xs ys W => run_eqGuard_agg W .neq _ x y xs ys Try.setG
  clear h
  go_enter Try.func82, Try.ntmps82
  go_wp2
  go_loopw [6] (fun i wr => ∃ k : Nat, k ≤ m ∧ i = .int .i64 k ∧ Hid (taK ps (m : Int) k) ∧ wr.cell? ⟨w.heap.size, 0, none⟩ = some (.int .i64 (m : Int)) ∧ wr.cell? ⟨w.heap.size, 1, none⟩ = some (.slice p ps.length cap) ∧ Below w.heap.size w wr ∧ w.heap.size < wr.heap.size) (fun i _ => m - (intOf i).toNat)
  case atStart => exact ⟨0, Nat.zero_le _, rfl, Lib.hid (taK_zero _ _), C0, C1, hb0, by simp⟩
  case round =>
    clear C0 C1 hb0
    obtain ⟨k, hk, rfl, HK, C0, C1, hb, hz⟩ := hrel
    by_cases hlt : k < m
    · have hk0 : (0 : Int) ≤ (k : Int) := by omega
      have hk1 : (k : Int) ≤ 127 := by omega
      have HB := Lib.hid hb
      have SA := fun (W' : World) h => Lib.hid (one_at (W' := W') hz C0 C1 h)
      have AO := Lib.hid (fun (W' : World) (b : Below wr.heap.size wr W') => answersOf_any (m : Int) (k : Int) (.slice p ps.length cap) ps W' (H.out.below (nxt hb b) (Nat.le_refl _)) hl hk0 hk1)
      have WL := Lib.hid (fun (W' : World) (b : Below wr.heap.size wr W') => withLies_any (m : Int) 0 (.slice p ps.length cap) ps (anP ps (k : Int)) W' (H.out.below (nxt hb b) (Nat.le_refl _)) hl h0 h1 (anP_yn _ _) (anP_len _ _))
      have CW := Lib.hid (fun (W' : World) (u : Value) (hu : Sv W' u [(k : Int)]) => cardWith_any u [(k : Int)] W' hu (one_bd hk0 hk1) (by simp))
      have EQ := fun W => set_eq (wlP ps (m : Int) (anP ps (k : Int)) 0) (inL [(k : Int)]) W
      have ST := Lib.hid (same_ta (ps := ps) (n := (m : Int)) (k := k))
      obtain ⟨S, eS⟩ : ∃ S, bstr (anP ps (k : Int)) = S := ⟨_, rfl⟩
      obtain ⟨A1, eA1⟩ : ∃ A, bA (wlP ps (m : Int) (anP ps (k : Int)) 0) = A := ⟨_, rfl⟩
      obtain ⟨A2, eA2⟩ : ∃ A, bA (inL [(k : Int)]) = A := ⟨_, rfl⟩
      obtain ⟨z, ez⟩ : ∃ z, sameB (wlP ps (m : Int) (anP ps (k : Int)) 0) (inL [(k : Int)]) = z := ⟨_, rfl⟩
      rw [eS] at AO WL
      rw [eA1] at WL EQ
      rw [eA2] at CW EQ
      rw [ez] at EQ ST
      clear eS eA1 eA2 ez C0 C1 hb
      go_upto_region 4 with (fail)
      go_region_held3 (fun w' => w'.cell? ⟨w.heap.size, 0, none⟩ = some (.int .i64 (m : Int)) ∧ w'.cell? ⟨w.heap.size, 1, none⟩ = some (.slice p ps.length cap) ∧ Below wr.heap.size wr w') ((first | assumption | exact (SA _ (below_drewN (Below.refl _ _) 1)).out | exact SB.out | exact SC.out | exact SD.out | exact (SA _ ((below_drewN (Below.refl _ _) 1).alloc (Nat.le_refl _) _)).out | exact (SA _ (((Below.refl _ _).alloc (Nat.le_refl _) _).drew)).out | exact (SA _ (SB.out.2.2.alloc SB.out.2.2.size _)).out | exact (SA _ (SC.out.2.2.alloc SC.out.2.2.size _)).out)) ((first
        | (go_at_call 78; refine (AO.out _ (one_bel w.heap.size (.int .i64 (m : Int)) (.slice p ps.length cap) (by assumption))).mono ?_; rintro e w6 ⟨rfl, b6⟩; have SB := SA w6 (nxt (one_bel w.heap.size (.int .i64 (m : Int)) (.slice p ps.length cap) (by assumption)) b6))
        | (go_at_call 86; refine (WL.out _ (one_bel w.heap.size (.int .i64 (m : Int)) (.slice p ps.length cap) (by assumption))).mono ?_; rintro e w7 ⟨rfl, b7⟩; have SC := SA w7 (nxt (one_bel w.heap.size (.int .i64 (m : Int)) (.slice p ps.length cap) (by assumption)) b7))
        | (go_at_call 97; refine (CW.out _ _ (by first | exact sv_one _ _ | exact sv_oned _ _ | exact (sv_oned _ _).below b6 (Nat.le_refl _) | exact ((sv_oned _ _).below b6 (Nat.le_refl _)).below b7 (Nat.le_refl _) | exact (sv_one _ _).below b6 (Nat.le_refl _) | exact (sv_one _ _).below b7 (Nat.le_refl _) | exact ((sv_one _ _).below b6 (Nat.le_refl _)).below b7 (Nat.le_refl _))).mono ?_; rintro e w8 ⟨rfl, b8⟩; have SD := SA w8 (nxt (one_bel w.heap.size (.int .i64 (m : Int)) (.slice p ps.length cap) (by assumption)) b8))))
      all_goals
        cases z
        · have HN := Lib.hid (taB_no (ps := ps) (n := (m : Int)) (k := k) (by omega) (fun g => by have := ST.out.2 g; cases this))
          clear EQ
          go_wp2
          go_ret
          exact ⟨ret_bool HN.out.symm, nxt HB.out (by first | exact SD.out.2.2 | exact SC.out.2.2)⟩
        · have HN := Lib.hid (taK_succ HK.out (ST.out.1 rfl))
          clear EQ
          go_wp2
          go_roundw
          case rel => exact ⟨k + 1, by omega, by go_num, HN, by first | exact SD.out.1 | exact SC.out.1, by first | exact SD.out.2.1 | exact SC.out.2.1, nxt HB.out (by first | exact SD.out.2.2 | exact SC.out.2.2), Nat.lt_of_lt_of_le hz (by first | exact SD.out.2.2.size | exact SC.out.2.2.size)⟩
          case measure => simp only [intOf]; omega
    · have hke : k = m := by omega
      subst hke
      have HN := Lib.hid (taB_yes (ps := ps) (n := (k : Int)) (by rw [Int.toNat_natCast]; exact HK.out))
      go_wp2
      go_ret
      exact ⟨ret_bool HN.out.symm, hb⟩
end Go.Proofs.Ytpolobjlihhjbaa
