/-
  The law on IsDesk, walked: whatever comes in, it returns true and writes nothing that was there. No condition.
-/
import Derived.Test.YtgojlabkngnkdaaDsk
namespace Go.Proofs.Ytgojlabkngnkdaa
open Go.RowKit

set_option maxHeartbeats 8000000 in
theorem lawIsDesk (v : Value) (xs : List Int) (u : Value) (ys : List Int) (w : World) (h : Sv w v xs) (h2 : Sv w u ys) (n1 : xs.length ≤ 9223372036854775807) (n2 : ys.length ≤ 9223372036854775807) :
    Calls Try.prog 4 #[.agg #[v, u]] w fun e w' => e = .returned (.bool true) ∧ Below w.heap.size w w' := by
  obtain ⟨p, cap, rfl⟩ := h.form
  obtain ⟨p2, cap2, rfl⟩ := h2.form
  obtain ⟨W, eW⟩ : ∃ W, w.alloc (.cells #[.slice p xs.length cap, .slice p2 ys.length cap2] 29) = W := ⟨_, rfl⟩
  have hb0 : Below w.heap.size w W := by rw [← eW]; exact (Below.refl _ _).alloc (Nat.le_refl _) _
  have A : Bd W w.heap.size (.slice p xs.length cap) (.slice p2 ys.length cap2) := by rw [← eW]; exact bd_new _ _ _ _
  have H1 := Lib.hid (h.below hb0 (Nat.le_refl _))
  have H2 := Lib.hid (h2.below hb0 (Nat.le_refl _))
  have SZ := Lib.hid (szDesk_any _ _ xs ys W H1.out H2.out n1 n2)
  have TD := Lib.hid (fun (W' : World) (hW : Below W.heap.size W W') (l1 : xs.length ≤ 1099511627776) (l2 : ys.length ≤ 1099511627776) => toDesk_any _ _ xs ys W' (H1.out.below hW (Nat.le_refl _)) (H2.out.below hW (Nat.le_refl _)) l1 l2)
  have HA := Lib.hid (fun (W' : World) (hW : Below W.heap.size W W') => A.below hW)
  clear h h2 n1 n2
  obtain ⟨ZA, c0, c1⟩ := A
  go_enter Try.func4, Try.ntmps4
  go_wp2_with fail
  clear eW c0 c1
  refine SZ.out.mono ?_
  rintro e w0 ⟨⟨r, rfl, hr⟩, t⟩
  clear SZ
  by_cases hneg : r < 0
  · clear hr
    go_wp2_with fail
    go_ret
    exact ⟨rfl, nxt hb0 t⟩
  have L1 : Hid (xs.length ≤ 1099511627776) := Lib.hid (by rcases hr with h | h; exact absurd h hneg; omega)
  have L2 : Hid (ys.length ≤ 1099511627776) := Lib.hid (by rcases hr with h | h; exact absurd h hneg; omega)
  clear hr
  obtain ⟨-, c0, c1⟩ := HA.out _ t
  go_wp2_with fail
  clear c0 c1
  refine (TD.out _ t L1.out L2.out).mono ?_
  rintro e w1 ⟨v1, u1, rfl, o1, o2, b⟩
  replace t := nxt t b
  clear b
  go_wp2_with fail
  refine (specIsDesk_any _ _ xs ys _ o1 o2.sv L1.out L2.out).mono ?_
  rintro e w2 ⟨rfl, b⟩
  clear o1 o2
  replace t := nxt t b
  clear b
  obtain ⟨-, c0, c1⟩ := HA.out _ t
  go_wp2_with fail
  clear c0 c1
  refine (TD.out _ t L1.out L2.out).mono ?_
  rintro e w3 ⟨v3, u3, rfl, o3, o4, b⟩
  replace t := nxt t b
  clear b
  obtain ⟨q3, k3, rfl⟩ := o3.form
  obtain ⟨q4, k4, rfl⟩ := o4.sv.form
  obtain ⟨W3, eW3⟩ : ∃ W3, w3.alloc (.cells #[.slice q3 xs.length k3, .slice q4 ys.length k4] 24) = W3 := ⟨_, rfl⟩
  have b : Below w3.heap.size w3 W3 := by rw [← eW3]; exact (Below.refl _ _).alloc (Nat.le_refl _) _
  have X : Bd W3 w3.heap.size (.slice q3 xs.length k3) (.slice q4 ys.length k4) := by rw [← eW3]; exact bd_new _ _ _ _
  replace o3 := o3.below b (Nat.le_refl _)
  replace o4 := o4.below b (Nat.le_refl _)
  replace t := nxt t b
  clear b
  have HX := Lib.hid X
  obtain ⟨-, c0, c1⟩ := X
  go_wp2_with fail
  clear c0 c1 eW3
  refine (implIsDesk_any _ _ xs ys _ o3 o4 L1.out L2.out).mono ?_
  rintro e w4 ⟨rfl, b⟩
  replace o3 := o3.below b (Nat.le_refl _)
  replace o4 := o4.below b (Nat.le_refl _)
  replace HX := Lib.hid (HX.out.below b)
  replace t := nxt t b
  clear b
  have O3 := Lib.hid o3
  have O4 := Lib.hid o4.sv
  have HAA := Lib.hid (HA.out _ t)
  have SA := fun (W' : World) (h : Below w4.heap.size w4 W') => Lib.hid (bd_two HX.out HAA.out h)
  have HT := Lib.hid t
  clear o3 o4 t
  go_upto_region 10 with (fail)
  go_region_held3 (fun w' => w'.cell? ⟨w3.heap.size, 0, none⟩ = some (.slice q3 xs.length k3) ∧ w'.cell? ⟨w3.heap.size, 1, none⟩ = some (.slice q4 ys.length k4) ∧ w'.cell? ⟨w.heap.size, 0, none⟩ = some (.slice p xs.length cap) ∧ w'.cell? ⟨w.heap.size, 1, none⟩ = some (.slice p2 ys.length cap2) ∧ Below w4.heap.size w4 w') ((first | assumption | exact (SA _ (below_drewN (Below.refl _ _) 1)).out | exact (SA _ (Below.refl _ _)).out | exact SB.out | exact SC.out)) ((first
    | (go_at_call 14; refine (TD.out _ (nxt HT.out (bd_bel w3.heap.size w.heap.size (.slice q3 xs.length k3) (.slice q4 ys.length k4) (.slice p xs.length cap) (.slice p2 ys.length cap2) (by assumption))) L1.out L2.out).mono ?_; rintro e w6 ⟨v6, u6, rfl, o6, o7, b6⟩; have SB := SA w6 (nxt (bd_bel w3.heap.size w.heap.size (.slice q3 xs.length k3) (.slice q4 ys.length k4) (.slice p xs.length cap) (.slice p2 ys.length cap2) (by assumption)) b6); obtain ⟨q6, k6, rfl⟩ := o6.form; obtain ⟨q7, k7, rfl⟩ := o7.sv.form; have O6 := Lib.hid o6; have O7 := Lib.hid o7.sv; clear o6 o7 b6)
    | (go_at_call 9; refine (eqDesk_yes _ _ _ _ xs ys _ (O3.out.below SB.out.2.2.2.2 (Nat.le_refl _)) (O4.out.below SB.out.2.2.2.2 (Nat.le_refl _)) O6.out O7.out L1.out L2.out).mono ?_; rintro e w7 ⟨rfl, b7⟩; have SC := SA w7 (nxt SB.out.2.2.2.2 b7); clear b7)))
  have t := nxt HT.out SC.out.2.2.2.2
  clear SA SB SC O6 O7 HT
  go_wp2_with fail
  go_ret
  exact ⟨rfl, nxt hb0 t⟩
end Go.Proofs.Ytgojlabkngnkdaa
