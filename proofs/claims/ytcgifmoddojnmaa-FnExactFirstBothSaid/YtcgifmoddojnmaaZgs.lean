/-
  The gaps and the number of values of both sides, in the model, by contracts. Condition: slices of at most 2^40 numbers.
-/
import Derived.Test.YtcgifmoddojnmaaZgp
namespace Go.Proofs.Ytcgifmoddojnmaa
open Go.RowKit

/-- A slice of the call's own that is not empty, with its capacity. -/
theorem Ow.full {w : World} {B : Nat} {v : Value} {ys : List Int} (h : Ow w B v ys) (h0 : 0 < ys.length) :
    ∃ g cap, v = .slice (some ⟨g, 0, none⟩) ys.length cap ∧ ys.length ≤ cap ∧ cap ≤ 9223372036854775807 ∧ g < w.heap.size ∧ ∀ j, j < ys.length → w.cell? ⟨g, j, none⟩ = some (.int .i64 (ys.getD j 0)) := by
  obtain ⟨p, c, e, hx⟩ := h.sv
  obtain ⟨_, h2⟩ := h
  rcases h2 with ⟨hv, hn⟩ | ⟨g, cap, cur, hv, hg, hh, h1, h2, _⟩
  · omega
  · obtain ⟨b, off, hp, hb, hc⟩ := hx h0
    rw [e] at hv
    simp only [Value.slice.injEq, true_and] at hv
    obtain ⟨rfl, rfl⟩ := hv
    simp only [Option.some.injEq, Addr.mk.injEq, and_true] at hp
    obtain ⟨rfl, rfl⟩ := hp
    exact ⟨g, c, e, h1, by unfold maxLen at h2; exact h2, hb, fun j hj => by simpa using hc j hj⟩

set_option maxHeartbeats 4000000 in
theorem specGapsBoth_any (v : Value) (xs : List Int) (w : World) (hsp : Sp w v xs) (hl : xs.length ≤ 1099511627776) :
    Calls Try.prog 35 #[v] w fun e w' => ∃ u, e = .returned (.tuple #[u, .bool (gpB xs)]) ∧ Ow w' w.heap.size u (gpR xs) ∧ Below w.heap.size w w' := by
  have h := hsp.sv
  by_cases hg : sideB xs = true
  · have hgood := (sideB_iff.1 hg).1
    obtain ⟨htop, htop2⟩ := hgood.top
    have HL := Lib.hid (syList_len xs)
    have SL := Lib.hid (syList_at xs)
    have HSU := Lib.hid htop
    obtain ⟨T, eT⟩ : ∃ T, T = top xs := ⟨_, rfl⟩
    have HT := Lib.hid eT
    rw [← eT] at HL SL HSU htop2
    clear htop eT
    go_enter Try.func35, Try.ntmps35
    go_wp2_with fail
    refine (siFew_any _ _ _ h hl).mono ?_
    rintro e w0 ⟨rfl, b0⟩
    have h0 := h.below b0 (Nat.le_refl _)
    go_wp2_with fail
    refine (piSum_any _ _ _ h0 hgood).mono ?_
    rintro e w0' ⟨rfl, rfl⟩
    rw [← HSU.out]
    go_wp2_with fail
    refine (siWays_any _ _ _ h0 hgood).mono ?_
    rintro e w1 ⟨u, rfl, o1, b1⟩
    have b1 := nxt b0 b1
    obtain ⟨b, cap, rfl, hcap, hcm, hbl, hc⟩ := o1.full (by rw [HL.out]; omega)
    rw [HL.out] at hcap hc ⊢
    have HC := Lib.hid hc
    have HG := Lib.hid hg
    have hc0 : (T : Int) ≤ 2 * (T : Int) + 1 := by omega
    have hc1 : 2 * (T : Int) + 1 ≤ (cap : Int) := by omega
    have hc2 : (0 : Int) ≤ (T : Int) := by omega
    have hc3 : ¬ cap = T := by omega
    clear hc o1 b0 hg
    have z1 := b1.size
    go_wp2
    go_loopw [5, 18] (fun a i wr => ∃ k : Nat, k ≤ T + 1 ∧ i = .int .i64 k ∧ Ow wr w1.heap.size a (selTo (vG xs) k) ∧ Below w1.heap.size w1 wr) (fun _ i _ => T + 1 - (intOf i).toNat)
    case atStart => exact ⟨0, by omega, rfl, World.ownsRow_nil _ _ _ _, Below.refl _ _⟩
    case round =>
      obtain ⟨k, hk, rfl, ho, hb⟩ := hrel
      have hz := hb.size
      by_cases hlt : k < T + 1
      · have hcell := (hb.cell (p := ⟨b, T + k, none⟩) hbl).trans (HC.out (T + k) (by omega))
        rw [SL.out (T + k) (by omega), show ((T + k : Nat) : Int) - (T : Int) = (k : Int) by omega] at hcell
        have hsl := selTo_len (vG xs) k
        by_cases hzero : Sy xs k = 0
        · have S := Lib.hid (selTo_yes (vG_yes hzero))
          rw [hzero] at hcell
          clear hzero
          go_wp2_with (at_builtin; refine wpList_append_src rfl _ _ rfl w1.heap.size _ (selTo (vG xs) k) rfl (ho.alloc _) _ [(k : Int)] rfl (src_one _ _) (by simp only [List.length_cons, List.length_nil]; omega) (by simp; omega) ?_; intro v' w3 h3 g3)
          have b3 := (hb.alloc hz _).trans ((ho.alloc _).grown (by simp; omega) g3)
          clear ho g3 hcell hb
          go_roundw
          case rel => exact ⟨k + 1, by omega, by go_num, by rw [S.out]; exact h3, b3⟩
          case measure => simp only [intOf]; omega
        · have S := Lib.hid (selTo_no (vG_no hzero))
          obtain ⟨a, ea⟩ : ∃ a, Sy xs k = a := ⟨_, rfl⟩
          rw [ea] at hcell hzero
          have d : (a == 0) = false := by simpa using hzero
          clear hzero ea
          go_wp2
          go_roundw
          case rel => exact ⟨k + 1, by omega, by go_num, by rw [S.out]; exact ho, hb⟩
          case measure => simp only [intOf]; omega
      · have hkT : k = T + 1 := by omega
        subst hkT
        obtain ⟨pv, cv, rfl, -⟩ := ho.sv
        have hsl := selTo_len (vG xs) (T + 1)
        by_cases hm : (selTo (vG xs) (T + 1)).length ≤ 1000
        · have R := Lib.hid (gp_yes HG.out (by rw [← HT.out]; exact hm))
          go_wp2
          go_ret2
          exact ⟨_, ret_lbx rfl R.out.1.symm, by rw [R.out.2, ← HT.out]; exact ho.mono z1, nxt b1 hb⟩
        · have R := Lib.hid (gp_many (xs := xs) (by rw [← HT.out]; omega))
          go_wp2
          go_ret2
          exact ⟨_, ret_lbx rfl R.out.1.symm, by rw [R.out.2]; exact ow_nil _ _, nxt b1 hb⟩
  · have hg : sideB xs = false := by simpa using hg
    have R := Lib.hid (gp_no hg)
    go_enter Try.func35, Try.ntmps35
    go_wp2_with fail
    refine (siFew_any _ _ _ h hl).mono ?_
    rintro e w1 ⟨rfl, b1⟩
    go_wp2_with fail
    go_ret2
    exact ⟨_, ret_lbx rfl R.out.1.symm, by rw [R.out.2]; exact ow_nil _ _, b1⟩

set_option maxHeartbeats 4000000 in
theorem specCountBoth_any (v : Value) (xs : List Int) (w : World) (hsp : Sp w v xs) (hl : xs.length ≤ 1099511627776) :
    Calls Try.prog 39 #[v] w fun e w' => e = .returned (.tuple #[.int .i64 (cbR xs), .bool (sideB xs)]) ∧ Below w.heap.size w w' := by
  have h := hsp.sv
  by_cases hg : sideB xs = true
  · have hgood := (sideB_iff.1 hg).1
    obtain ⟨htop, htop2⟩ := hgood.top
    have R := Lib.hid (cbR_yes hg)
    have HL := Lib.hid (syList_len xs)
    have SL := Lib.hid (syList_at xs)
    have HSU := Lib.hid htop
    obtain ⟨T, eT⟩ : ∃ T, T = top xs := ⟨_, rfl⟩
    rw [← eT] at HL SL HSU htop2 R
    clear htop eT
    go_enter Try.func39, Try.ntmps39
    go_wp2_with fail
    refine (siFew_any _ _ _ h hl).mono ?_
    rintro e w0 ⟨rfl, b0⟩
    have h0 := h.below b0 (Nat.le_refl _)
    go_wp2_with fail
    refine (siWays_any _ _ _ h0 hgood).mono ?_
    rintro e w1 ⟨u, rfl, o1, b1⟩
    have h1 := h0.below b1 (Nat.le_refl _)
    have b1 := nxt b0 b1
    obtain ⟨b, cap, rfl, hcap, hcm, hbl, hc⟩ := o1.full (by rw [HL.out]; omega)
    rw [HL.out] at hcap hc ⊢
    go_wp2_with fail
    refine (piSum_any _ _ _ h1 hgood).mono ?_
    rintro e w0' ⟨rfl, rfl⟩
    rw [← HSU.out]
    have HC := Lib.hid hc
    have HG := Lib.hid hg
    have hc0 : (T : Int) ≤ 2 * (T : Int) + 1 := by omega
    have hc1 : 2 * (T : Int) + 1 ≤ (cap : Int) := by omega
    have hc2 : (0 : Int) ≤ (T : Int) := by omega
    have hc3 : ¬ cap = T := by omega
    clear hc o1 b0 hg
    go_wp2
    go_loop [4, 16] (fun a i => ∃ k : Nat, k ≤ T + 1 ∧ i = .int .i64 k ∧ a = .int .i64 ((selTo (vS xs) k).length : Int)) (fun _ i => T + 1 - (intOf i).toNat)
    case atStart => exact ⟨0, by omega, rfl, rfl⟩
    case round =>
      obtain ⟨k, hk, rfl, rfl⟩ := hrel
      by_cases hlt : k < T + 1
      · have hcell := HC.out (T + k) (by omega)
        rw [SL.out (T + k) (by omega), show ((T + k : Nat) : Int) - (T : Int) = (k : Int) by omega] at hcell
        have hsl := selTo_len (vS xs) k
        have hnn := (Sy_bd xs (k : Int)).1
        by_cases hzero : Sy xs k = 0
        · have S := Lib.hid (selTo_no (vS_no hzero))
          rw [hzero] at hcell
          clear hzero hnn
          go_wp2
          go_round
          case rel => exact ⟨k + 1, by omega, by go_num, by rw [S.out]⟩
          case measure => simp only [intOf]; omega
        · have S := Lib.hid (selTo_yes (vS_yes hzero))
          obtain ⟨a, ea⟩ : ∃ a, Sy xs k = a := ⟨_, rfl⟩
          rw [ea] at hcell hzero hnn
          have ha : 0 < a := by omega
          clear hzero ea hnn
          go_wp2
          go_round
          case rel => exact ⟨k + 1, by omega, by go_num, by rw [S.out, List.length_append]; go_num⟩
          case measure => simp only [intOf]; omega
      · have hkT : k = T + 1 := by omega
        subst hkT
        go_wp2
        go_ret2
        exact ⟨ret_ib R.out.symm HG.out.symm, b1⟩
  · have hg : sideB xs = false := by simpa using hg
    have R := Lib.hid (cbR_no hg)
    have HG := Lib.hid hg
    go_enter Try.func39, Try.ntmps39
    go_wp2_with fail
    refine (siFew_any _ _ _ h hl).mono ?_
    rintro e w1 ⟨rfl, b1⟩
    go_wp2_with fail
    go_ret2
    exact ⟨ret_ib R.out.symm HG.out.symm, b1⟩

end Go.Proofs.Ytcgifmoddojnmaa
