/-
  MovesOnDay, MovesOfPlan, HeldAt, GivenAt and TakenAt in the model and in the program, by their contracts: the same answers. Condition: slices of at most 2^20 numbers in all.
-/
import Derived.Test.YtillkjkdpkgckaaPsum
namespace Go.Proofs.Ytillkjkdpkgckaa
open Go.RowKit

theorem ret_ib {k : IntKind} {a b : Int} {c d : Bool} (h : a = b) (g : c = d) : Ending.returned (.tuple #[.int k a, .bool c]) = .returned (.tuple #[.int k b, .bool d]) := by rw [h, g]
noncomputable def mdR (xs : List Int) (pl : List (List Int)) (a : Int) : Int := if dayB xs pl a = true then mvAt pl a.toNat else 0
theorem mdR_yes {xs : List Int} {pl : List (List Int)} {d : Nat} (h : dayB xs pl d = true) : mdR xs pl d = mvAt pl d := by simp [mdR, h]
theorem mdR_no {xs : List Int} {pl : List (List Int)} {a : Int} (h : dayB xs pl a = false) : mdR xs pl a = 0 := by simp [mdR, h]
theorem idx_zero : ((idx 0).length : Int) = 0 := by decide

set_option maxHeartbeats 2000000 in
set_option maxRecDepth 20000 in
theorem implMovesOnDay_any (v u : Value) (xs : List Int) (pl : List (List Int)) (a : Int) (w : World) (hv : Sv w v xs) (hu : Svv w u pl) (hl : xs.length ≤ 1099511627776) (hf : Few2 pl) :
    Calls Try.prog 43 #[v, u, .int .i64 a] w fun e w' => e = .returned (.tuple #[.int .i64 (mdR xs pl a), .bool (dayB xs pl a)]) ∧ Below w.heap.size w w' := by
  have HV := Lib.hid hv
  have HU := Lib.hid hu
  have HF := Lib.hid hf
  clear hv hu hf
  by_cases hd : dayB xs pl a = true
  · obtain ⟨d, rfl, D⟩ := dayB_iff hd
    have HDY := Lib.hid hd
    have R1 := (D.ok.row D.few D.lt).2
    have R2 := (D.ok.bef D.few D.lt).2
    have L1 := mask_lt R1
    have L2 := mask_lt R2
    have M : Hid ((idx (maskL (befL pl d) ^^^ maskL (nowL pl d))).length = mdR xs pl d) := Lib.hid (by rw [mdR_yes hd, moves_only R2 R1]; simp [mvAt])
    have CO := Lib.hid (changeOnDay_yes _ _ _ _ d w HV.out HU.out HF.out D)
    obtain ⟨x, ex⟩ : ∃ x, maskL (befL pl d) = x := ⟨_, rfl⟩
    obtain ⟨y, ey⟩ : ∃ y, maskL (nowL pl d) = y := ⟨_, rfl⟩
    rw [ex, ey] at M CO
    rw [ex] at L2
    rw [ey] at L1
    clear hd ex ey R1 R2 D
    go_enter Try.func43, Try.ntmps43
    go_wp2_with fail
    refine CO.out.mono ?_
    rintro e w1 ⟨rfl, b1⟩
    have z1 := b1.size
    go_wp2_with fail
    refine (moves_any x y _ L2 L1).mono ?_
    rintro e w2 ⟨rfl, b2⟩
    have b3 : Below w.heap.size w w2 := by
      refine Below.trans ?_ (Below.mono b2 (by simp; omega))
      first
        | exact ((b1.alloc z1 _).setCell (by simp; omega) _).setCell (by simp; omega) _
        | exact b1.alloc z1 _
    go_wp2_with fail
    go_ret2
    exact ⟨ret_ib M.out HDY.out.symm, b3⟩
  · have hd : dayB xs pl a = false := by simpa using hd
    have R : Hid (mdR xs pl a = 0) := Lib.hid (mdR_no hd)
    have HDY := Lib.hid hd
    have CO := Lib.hid (changeOnDay_no _ _ _ _ a w HV.out HU.out hl HF.out hd)
    clear hd
    go_enter Try.func43, Try.ntmps43
    go_wp2_with fail
    refine CO.out.mono ?_
    rintro e w1 ⟨rfl, b1⟩
    have z1 := b1.size
    go_wp2_with fail
    refine (moves_any 0 0 _ (by omega) (by omega)).mono ?_
    rintro e w2 ⟨rfl, b2⟩
    have b3 : Below w.heap.size w w2 := by
      refine Below.trans ?_ (Below.mono b2 (by simp; omega))
      first
        | exact ((b1.alloc z1 _).setCell (by simp; omega) _).setCell (by simp; omega) _
        | exact b1.alloc z1 _
    go_wp2_with fail
    go_ret2
    exact ⟨ret_ib (by rw [R.out]; exact idx_zero) HDY.out.symm, b3⟩

set_option maxHeartbeats 2000000 in
set_option maxRecDepth 20000 in
theorem specMovesOnDay_any (v u : Value) (xs : List Int) (pl : List (List Int)) (a : Int) (w : World) (hv : Sv w v xs) (hu : Svv w u pl) (hl : xs.length ≤ 1099511627776) (hf : Few2 pl) :
    Calls Try.prog 42 #[v, u, .int .i64 a] w fun e w' => e = .returned (.tuple #[.int .i64 (mdR xs pl a), .bool (dayB xs pl a)]) ∧ Below w.heap.size w w' := by
  have HV := Lib.hid hv
  have HU := Lib.hid hu
  have HF := Lib.hid hf
  have hn : pl.length ≤ 1048576 := by unfold Few2 at hf; omega
  clear hv hf
  by_cases hd : dayB xs pl a = true
  · obtain ⟨d, rfl, D⟩ := dayB_iff hd
    have HDY := Lib.hid hd
    have R1 := (D.ok.row D.few D.lt).2.len
    have R2 := (D.ok.bef D.few D.lt).2.len
    have M : Hid ((((onlyL (befL pl d) (nowL pl d)).length : Int) + (onlyL (nowL pl d) (befL pl d)).length) = mdR xs pl d) := Lib.hid (by rw [mdR_yes hd]; rfl)
    have hlt := D.lt
    have d0 : (0 : Int) ≤ d := by omega
    have d1 : (d : Int) < pl.length := by omega
    obtain ⟨p, cap, rfl, hx⟩ := hu
    obtain ⟨b, off, rfl, hbl, hc⟩ := hx (by omega)
    obtain ⟨r0, hc0, hs0⟩ := hc d hlt
    have HS := Lib.hid hs0
    rw [hd]
    clear hd D hx hc hs0
    go_enter Try.func42, Try.ntmps42
    go_wp2_with fail
    refine (paDay_any _ _ _ _ _ _ HV.out HU.out hl HF.out).mono ?_
    rintro e w1 ⟨rfl, b1⟩
    rw [HDY.out]
    have hcell : w1.cell? ⟨b, off + d, none⟩ = some r0 := (b1.cell (p := ⟨b, off + d, none⟩) hbl).trans hc0
    have z1 := b1.size
    go_wp2
    go_region_with (first
      | (go_at_call 62; go_must (refine (paBefore_any _ _ d _ (HU.out.below (b1.trans (Below.mono (below_drewN (Below.refl _ _) _) z1)) (Nat.le_refl _)) hlt hn).mono ?_; rintro e w2 ⟨r, rfl, sr, ew⟩; subst ew; have SR := Lib.hid sr))
      | (go_at_call 65; go_must (refine (paMoves_any _ _ _ _ _ (by first | exact SR.out | exact SR.out.below (below_drewN (Below.refl _ _) _) (Nat.le_refl _)) (HS.out.below (Below.trans (Below.mono b1 (Nat.le_refl _)) (Below.mono (below_drewN (Below.refl _ _) _) z1)) (Nat.le_refl _)) R2 R1).mono ?_; rintro e w3 ⟨rfl, b3⟩)))
    all_goals
      have b4 : Below w.heap.size w w3 := Below.trans (Below.trans b1 (Below.mono (below_drewN (Below.refl _ _) _) z1)) (Below.mono b3 z1)
      go_wp2
      go_ret2
      exact ⟨ret_ib M.out rfl, b4⟩
  · have hd : dayB xs pl a = false := by simpa using hd
    have R : Hid (mdR xs pl a = 0) := Lib.hid (mdR_no hd)
    have HDY := Lib.hid hd
    clear hu
    rw [hd]
    clear hd
    go_enter Try.func42, Try.ntmps42
    go_wp2_with fail
    refine (paDay_any _ _ _ _ _ _ HV.out HU.out hl HF.out).mono ?_
    rintro e w1 ⟨rfl, b1⟩
    rw [HDY.out]
    go_wp2_with fail
    go_ret2
    exact ⟨ret_ib R.out.symm rfl, b1⟩
end Go.Proofs.Ytillkjkdpkgckaa
