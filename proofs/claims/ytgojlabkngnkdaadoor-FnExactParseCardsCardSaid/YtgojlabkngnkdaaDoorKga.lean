/-
  Cards in the model: what they are, the answers of a number, by contracts. Conditions: at most 2^40 lists of at most 2^40 numbers.
-/
import Derived.Test.YtgojlabkngnkdaaDoorKpu
import Derived.Test.YtgojlabkngnkdaaDoorPsl4
import Derived.Test.YtgojlabkngnkdaaDoorRis
namespace Go.Proofs.YtgojlabkngnkdaaDoor
open Go.RowKit

theorem svv_row {w : World} {p : Option Addr} {cap : Nat} {Ls : List (List Int)} (h : Svv w (.slice p Ls.length cap) Ls) (hl : 0 < Ls.length) : ∃ b off, p = some ⟨b, off, none⟩ ∧ b < w.heap.size ∧ ∀ j, j < Ls.length → ∃ u, w.cell? ⟨b, off + j, none⟩ = some u ∧ Sv w u (rowL Ls j) := by
  obtain ⟨p2, c2, e, hx⟩ := h
  simp only [Value.slice.injEq] at e
  obtain ⟨rfl, _, rfl⟩ := e
  exact hx hl
theorem svv_form {w : World} {v : Value} {Ls : List (List Int)} (h : Svv w v Ls) : ∃ p cap, v = .slice p Ls.length cap := by
  obtain ⟨p, cap, e, _⟩ := h
  exact ⟨p, cap, e⟩

theorem card_n (w : World) (n : Int) (v : Value) : (w.alloc (.cells #[.int .i64 n, v] 28)).cell? ⟨w.heap.size, 0, none⟩ = some (.int .i64 n) := by
  have h := heap_alloc_new w (.cells #[.int .i64 n, v] 28)
  simp only [World.cell?, h]; rfl
theorem card_v (w : World) (n : Int) (v : Value) : (w.alloc (.cells #[.int .i64 n, v] 28)).cell? ⟨w.heap.size, 1, none⟩ = some v := by
  have h := heap_alloc_new w (.cells #[.int .i64 n, v] 28)
  simp only [World.cell?, h]; rfl

set_option maxHeartbeats 2000000 in
set_option maxRecDepth 20000 in
theorem caGood_any (n : Int) (v : Value) (Ls : List (List Int)) (w : World) (h : Svv w v Ls) (hl : Ls.length ≤ 1099511627776) (hx : ∀ j, j < Ls.length → (rowL Ls j).length ≤ 1099511627776) :
    Calls Tryd.prog 26 #[.agg #[.int .i64 n, v]] w fun e w' => e = .returned (.bool (caB n Ls)) ∧ Below w.heap.size w w' := by
  obtain ⟨p, cap, rfl⟩ := svv_form h
  have H := Lib.hid h
  clear h
  have hb0 : Below w.heap.size w (w.alloc (.cells #[.int .i64 n, .slice p Ls.length cap] 28)) := (Below.refl _ w).alloc (Nat.le_refl _) _
  by_cases hn : 1 ≤ n ∧ n ≤ 128
  · have hi : inB n 1 128 = true := inB_iff.2 hn
    by_cases h12 : Ls.length ≤ 12
    · have hn1 := hn.1
      have hn2 := hn.2
      go_enter Tryd.func26, Tryd.ntmps26
      go_wp2_with (go_at_call 52; refine (l1In_any _ _ _ _).mono ?_; rw [hi]; rintro e w1 ⟨rfl, rfl⟩)
      go_loopw [18] (fun i wr => ∃ k : Nat, k ≤ Ls.length ∧ i = .int .i64 k ∧ Hid (CaTo n Ls k) ∧ Below w.heap.size w wr ∧ wr.cell? ⟨w.heap.size, 0, none⟩ = some (.int .i64 n) ∧ w.heap.size < wr.heap.size) (fun i _ => Ls.length - (intOf i).toNat)
      case atStart => exact ⟨0, Nat.zero_le _, rfl, Lib.hid (CaTo.zero _ _), hb0, card_n w n _, by simp⟩
      case round =>
        clear hb0
        obtain ⟨k, hk, rfl, HC, hb, hcn, hgt⟩ := hrel
        by_cases hlt : k < Ls.length
        · obtain ⟨b, off, rfl, hbl, hr⟩ := svv_row H.out (by omega)
          obtain ⟨u, hu, hs⟩ := hr k hlt
          have hcell := (hb.cell (p := ⟨b, off + k, none⟩) hbl).trans hu
          have hs2 := hs.below hb (Nat.le_refl _)
          have RA := l1Rising_any u (rowL Ls k) 0 (n - 1) wr hs2 (hx k hlt)
          cases hr2 : risB (rowL Ls k) 0 (n - 1) with
          | true =>
            rw [hr2] at RA
            have RA := Lib.hid RA
            have CN := Lib.hid (HC.out.succ hr2)
            clear hr hu hs hs2 hr2
            go_wp2_with (go_at_call 53; refine RA.out.mono ?_; rintro e w2 ⟨rfl, b2⟩; have B2 := nxt hb b2; have C2 := (b2.cell (p := ⟨w.heap.size, 0, none⟩) hgt).trans hcn; have S2 := b2.size)
            go_roundw
            case rel => exact ⟨k + 1, by omega, by go_num, CN, B2, C2, by omega⟩
            case measure => simp [intOf]; omega
          | false =>
            rw [hr2] at RA
            have RA := Lib.hid RA
            have CN := Lib.hid (ca_not hlt hr2)
            clear hr hu hs hs2 hr2
            go_wp2_with (go_at_call 53; refine RA.out.mono ?_; rintro e w2 ⟨rfl, b2⟩; have B2 := nxt hb b2)
            go_ret
            exact ⟨ret_bool CN.out.symm, B2⟩
        · have hke : k = Ls.length := by omega
          subst hke
          have CN := Lib.hid (ca_all hn h12 HC.out)
          go_wp2
          go_ret
          exact ⟨ret_bool CN.out.symm, hb⟩
    · have CN := Lib.hid (ca_size (n := n) (Ls := Ls) (fun g => h12 g.2))
      go_enter Tryd.func26, Tryd.ntmps26
      go_wp2_with (go_at_call 52; refine (l1In_any _ _ _ _).mono ?_; rw [hi]; rintro e w1 ⟨rfl, rfl⟩)
      go_ret
      exact ⟨ret_bool CN.out.symm, hb0⟩
  · have hi : inB n 1 128 = false := by rw [Bool.eq_false_iff]; intro e; exact hn (inB_iff.1 e)
    have CN := Lib.hid (ca_size (n := n) (Ls := Ls) (fun g => hn g.1))
    go_enter Tryd.func26, Tryd.ntmps26
    go_wp2_with (go_at_call 52; refine (l1In_any _ _ _ _).mono ?_; rw [hi]; rintro e w1 ⟨rfl, rfl⟩)
    go_ret
    exact ⟨ret_bool CN.out.symm, hb0⟩

end Go.Proofs.YtgojlabkngnkdaaDoor
