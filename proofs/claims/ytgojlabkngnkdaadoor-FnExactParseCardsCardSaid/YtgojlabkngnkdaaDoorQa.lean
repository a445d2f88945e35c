/-
  The program's tests of cards, by their contracts. Condition: at most 2^40 lists of at most 2^40 numbers.
-/
import Derived.Test.YtgojlabkngnkdaaDoorKgc
import Derived.Deep.RegionWith
import Derived.BigRegion
import Derived.IntWalk
import Derived.Lib.OthersKept
import Derived.WalkSmall
import Derived.Laws.Runes
import Derived.Laws.RangeAny
import Derived.Laws.StandIn
import Derived.WalkMore
import Derived.Test.YtgojlabkngnkdaaDoorQow
namespace Go.Proofs.YtgojlabkngnkdaaDoor
open Go.RowKit

set_option maxHeartbeats 1000000 in
theorem areNumbers_any (n : Int) (w : World) : Calls Tryd.prog 56 #[.int .i64 n] w fun e w' => e = .returned (.bool (inB n 1 128)) ∧ w = w' := by
  have hi : inB n 1 128 = (decide (1 ≤ n) && decide (n ≤ 128)) := rfl
  have HI := Lib.hid hi
  clear hi
  go_enter Tryd.func56, Tryd.ntmps56
  go_wp2
  all_goals (go_ret; exact ⟨ret_bool (by rw [HI.out]; simp; try omega), rfl⟩)

set_option maxHeartbeats 1000000 in
theorem areSomeOf_any (v : Value) (xs : List Int) (m : Int) (w : World) (h : Sv w v xs) (hl : xs.length ≤ 1099511627776) (hm : m ≤ 1099511627776) :
    Calls Tryd.prog 57 #[.int .i64 m, v] w fun e w' => e = .returned (.bool (risB xs 0 (m - 1))) ∧ w = w' := by
  obtain ⟨p, cap, rfl, hx⟩ := h
  go_enter Tryd.func57, Tryd.ntmps57
  go_wp2
  go_loop [5, 10] (fun f i => ∃ (k : Nat) (fr : Int), k ≤ xs.length ∧ i = .int .i64 k ∧ f = .int .i64 fr ∧ fr = freeAt xs k ∧ RisTo xs 0 (m - 1) k ∧ (0 < k → fr ≤ m) ∧ 0 ≤ fr) (fun _ i => xs.length - (intOf i).toNat)
  case atStart => exact ⟨0, 0, Nat.zero_le _, rfl, rfl, rfl, ⟨fun j hj => by omega, fun j hj => by omega⟩, fun h => by omega, by omega⟩
  case round =>
    obtain ⟨k, fr, hk, rfl, rfl, hfr, ha, hfm, hf0⟩ := hrel
    have FR := Lib.hid hfr
    clear hfr
    by_cases hlt : k < xs.length
    · obtain ⟨b, off, rfl, hbl, hc⟩ := hx (by omega)
      have hcell := hc k hlt
      obtain ⟨x, ex⟩ : ∃ x, xs.getD k 0 = x := ⟨_, rfl⟩
      rw [ex] at hcell
      have EX := Lib.hid ex
      clear hc hx ex
      by_cases h1 : x < fr
      · have d1 : decide (x < fr) = true := by simpa using h1
        go_wp2
        go_ret
        exact ⟨ret_bool (by rw [free_low hlt (by rw [EX.out, ← FR.out]; exact h1)]), rfl⟩
      · have d1 : decide (x < fr) = false := by simpa using h1
        by_cases h2 : m ≤ x
        · go_wp2
          go_ret
          exact ⟨ret_bool (by rw [risB_out hlt (.inr (by rw [EX.out]; omega))]), rfl⟩
        · go_wp2
          go_round
          case rel => exact ⟨k + 1, x + 1, by omega, by go_num, by go_num, by rw [free_next, EX.out], free_succ ha (by rw [EX.out, ← FR.out]; omega) (by rw [EX.out]; omega) (by rw [← FR.out]; omega), by omega, by omega⟩
          case measure => simp [intOf]; omega
    · clear hx
      go_wp2
      go_ret
      have : k = xs.length := by omega
      subst this
      exact ⟨ret_bool (by rw [risB_yes ha]), rfl⟩

set_option maxHeartbeats 2000000 in
set_option maxRecDepth 20000 in
theorem implAreCards_any (n : Int) (v : Value) (Ls : List (List Int)) (w : World) (h : Svv w v Ls) (hl : Ls.length ≤ 1099511627776) (hx : ∀ j, j < Ls.length → (rowL Ls j).length ≤ 1099511627776) :
    Calls Tryd.prog 29 #[.agg #[.int .i64 n, v]] w fun e w' => e = .returned (.bool (caB n Ls)) ∧ Below w.heap.size w w' := by
  obtain ⟨p, cap, rfl⟩ := svv_form h
  have hb0 : Below w.heap.size w (w.alloc (.cells #[.int .i64 n, .slice p Ls.length cap] 28)) := (Below.refl _ w).alloc (Nat.le_refl _) _
  have H := Lib.hid (h.below hb0 (Nat.le_refl _))
  have HX := Lib.hid hx
  clear h hx
  by_cases hm : inB n 1 128 = true
  · have hmb := inB_iff.1 hm
    obtain ⟨hm0, hm1⟩ := hmb
    by_cases h12 : Ls.length ≤ 12
    · go_enter Tryd.func29, Tryd.ntmps29
      go_wp2_with (go_at_call 56; refine (areNumbers_any _ _).mono ?_; rintro e w' ⟨rfl, rfl⟩)
      go_loop [18] (fun i => ∃ k : Nat, k ≤ Ls.length ∧ i = .int .i64 k ∧ Hid (CaTo n Ls k)) (fun i => Ls.length - (intOf i).toNat)
      case atStart => exact ⟨0, Nat.zero_le _, rfl, Lib.hid (CaTo.zero _ _)⟩
      case round =>
        obtain ⟨k, hk, rfl, HC⟩ := hrel
        by_cases hlt : k < Ls.length
        · obtain ⟨b, off, rfl, hbl, hr⟩ := svv_row H.out (by omega)
          obtain ⟨u, hcell, hs⟩ := hr k hlt
          have hlen := HX.out k hlt
          have AS := Lib.hid (areSomeOf_any u (rowL Ls k) n _ hs hlen (by omega))
          clear hr hs
          cases hb : risB (rowL Ls k) 0 (n - 1) with
          | true =>
            rw [hb] at AS
            have HB := Lib.hid hb
            clear hb
            go_wp2_with (go_at_call 57; refine AS.out.mono ?_; rintro e w2 ⟨rfl, rfl⟩)
            go_round
            case rel => exact ⟨k + 1, by omega, by go_num, Lib.hid (HC.out.succ HB.out)⟩
            case measure => simp only [intOf]; omega
          | false =>
            rw [hb] at AS
            have HN := Lib.hid (ca_not hlt hb)
            clear hb
            go_wp2_with (go_at_call 57; refine AS.out.mono ?_; rintro e w2 ⟨rfl, rfl⟩)
            go_ret
            exact ⟨ret_bool HN.out.symm, hb0⟩
        · have hke : k = Ls.length := by omega
          subst hke
          have HN := Lib.hid (ca_all ⟨hm0, hm1⟩ h12 HC.out)
          go_wp2
          go_ret
          exact ⟨ret_bool HN.out.symm, hb0⟩
    · have HN := Lib.hid (ca_size (n := n) (Ls := Ls) (fun g => h12 g.2))
      have d : decide (12 < (Ls.length : Int)) = true := by simp; omega
      go_enter Tryd.func29, Tryd.ntmps29
      go_wp2_with (go_at_call 56; refine (areNumbers_any _ _).mono ?_; rintro e w' ⟨rfl, rfl⟩)
      go_ret
      exact ⟨ret_bool HN.out.symm, hb0⟩
  · have HN := Lib.hid (ca_size (n := n) (Ls := Ls) (fun g => hm (inB_iff.2 g.1)))
    have hm : inB n 1 128 = false := by simpa using hm
    go_enter Tryd.func29, Tryd.ntmps29
    go_wp2_with (go_at_call 56; refine (areNumbers_any _ _).mono ?_; rintro e w' ⟨rfl, rfl⟩)
    go_ret
    exact ⟨ret_bool HN.out.symm, hb0⟩

end Go.Proofs.YtgojlabkngnkdaaDoor
