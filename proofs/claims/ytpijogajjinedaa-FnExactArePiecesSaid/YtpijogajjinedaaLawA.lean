/-
  The law on ArePieces, walked: whatever slice comes in, it returns true and writes nothing that was there. No condition but a length that fits int.
-/
import Derived.Test.YtpijogajjinedaaGood
namespace Go.Proofs.Ytpijogajjinedaa
open Go.RowKit

set_option maxHeartbeats 1000000 in
theorem specArePieces_any (v : Value) (xs : List Int) (w : World) (h : Sv w v xs) (hl : xs.length ≤ 1099511627776) :
    Calls Try.prog 19 #[v] w fun e w' => e = .returned (.bool (goodB xs)) ∧ Below w.heap.size w w' := by
  go_enter Try.func19, Try.ntmps19
  go_wp2_with (go_at_call 55; refine (piGood_any _ _ _ h hl).mono ?_; rintro e w' ⟨rfl, hb⟩)
  go_ret
  exact ⟨rfl, hb⟩

set_option maxHeartbeats 1000000 in
theorem lawArePieces (v : Value) (xs : List Int) (w : World) (h : Sv w v xs) (hm : xs.length ≤ 9223372036854775807) :
    Calls Try.prog 3 #[v] w fun e w' => e = .returned (.bool true) ∧ Below w.heap.size w w' := by
  have hs := h
  obtain ⟨p, cap, rfl, hx⟩ := h
  clear hx
  by_cases hbig : 1048576 < xs.length
  · go_enter Try.func3, Try.ntmps3
    go_wp2
    go_ret
    exact ⟨rfl, Below.refl _ _⟩
  · have hl : xs.length ≤ 1099511627776 := by omega
    go_enter Try.func3, Try.ntmps3
    go_wp2_with fail
    refine (toIntS_any _ _ _ hs hl).mono ?_
    rintro e w1 ⟨u1, rfl, o1, -, b1⟩
    go_wp2_with fail
    refine (specArePieces_any _ _ _ o1.sv hl).mono ?_
    rintro e w2 ⟨rfl, b2⟩
    clear o1
    have b2 := nxt b1 b2
    clear b1
    go_wp2_with fail
    refine (toIntS_any _ _ _ (hs.below b2 (Nat.le_refl _)) hl).mono ?_
    rintro e w3 ⟨u3, rfl, o3, -, b3⟩
    have b3 := nxt b2 b3
    clear b2
    go_wp2_with fail
    refine (arePieces_any _ _ _ o3.sv hl).mono ?_
    rintro e w4 ⟨rfl, b4⟩
    have o4 := o3.below b4 (Nat.le_refl _)
    have b4 := nxt b3 b4
    clear o3 b3
    go_wp2_with fail
    refine (toIntS_any _ _ _ (hs.below b4 (Nat.le_refl _)) hl).mono ?_
    rintro e w5 ⟨u5, rfl, o5, -, b5⟩
    have o6 := o4.below b5 (Nat.le_refl _)
    have b5 := nxt b4 b5
    go_wp2_with fail
    refine (eqIntS_yes _ _ _ _ _ o6.sv o5.sv rfl hl).mono ?_
    rintro e w6 ⟨rfl, b6⟩
    have b6 := nxt b5 b6
    clear o4 o5 o6 b4 b5
    go_wp2_with fail
    go_ret
    exact ⟨rfl, b6⟩

end Go.Proofs.Ytpijogajjinedaa
