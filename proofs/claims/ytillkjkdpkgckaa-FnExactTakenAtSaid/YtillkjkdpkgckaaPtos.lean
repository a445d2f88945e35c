/-
  GivenAt and TakenAt in the model and in the program, by their contracts: the same answers. Condition: slices of at most 2^20 numbers in all.
-/
import Derived.Test.YtillkjkdpkgckaaPtor
namespace Go.Proofs.Ytillkjkdpkgckaa
open Go.RowKit

noncomputable def gaR (xs : List Int) (pl : List (List Int)) (a : Int) : List Int := if dayB xs pl a = true then onlyL (nowL pl a.toNat) (befL pl a.toNat) else []
theorem gaR_yes {xs : List Int} {pl : List (List Int)} {d : Nat} (h : dayB xs pl d = true) : gaR xs pl d = onlyL (nowL pl d) (befL pl d) := by simp [gaR, h]
theorem gaR_no {xs : List Int} {pl : List (List Int)} {a : Int} (h : dayB xs pl a = false) : gaR xs pl a = [] := by simp [gaR, h]
theorem gaR_len (xs : List Int) (pl : List (List Int)) (a : Int) : (gaR xs pl a).length ≤ 1099511627776 := by
  by_cases h : dayB xs pl a = true
  · obtain ⟨d, rfl, D⟩ := dayB_iff h
    rw [gaR_yes h]
    have h1 := only_len (nowL pl d) (befL pl d)
    have h2 := (D.ok.row D.few D.lt).2.len
    have h3 := (D.ok.bef D.few D.lt).2.len
    omega
  · rw [gaR_no (by simpa using h)]; simp

set_option maxHeartbeats 2000000 in
set_option maxRecDepth 20000 in
theorem implGivenAt_any (v u : Value) (xs : List Int) (pl : List (List Int)) (a : Int) (w : World) (hv : Sv w v xs) (hu : Svv w u pl) (hl : xs.length ≤ 1099511627776) (hf : Few2 pl) :
    Calls Try.prog 39 #[v, u, .int .i64 a] w fun e w' => ∃ g, e = .returned (.tuple #[g, .bool (dayB xs pl a)]) ∧ Ow w' w.heap.size g (gaR xs pl a) ∧ Below w.heap.size w w' := by
  have HV := Lib.hid hv
  have HU := Lib.hid hu
  have HF := Lib.hid hf
  clear hv hu hf
  by_cases hd : dayB xs pl a = true
  · obtain ⟨d, rfl, D⟩ := dayB_iff hd
    have HDY := Lib.hid hd
    have HR := Lib.hid (gaR_yes hd)
    have R1 := (D.ok.row D.few D.lt).2
    have R2 := (D.ok.bef D.few D.lt).2
    have L1 := mask_lt R1
    have L2 := mask_lt R2
    have M := Lib.hid (gvn_only R2 R1)
    have CO := Lib.hid (changeOnDay_yes _ _ _ _ d w HV.out HU.out HF.out D)
    obtain ⟨x, ex⟩ : ∃ x, maskL (befL pl d) = x := ⟨_, rfl⟩
    obtain ⟨y, ey⟩ : ∃ y, maskL (nowL pl d) = y := ⟨_, rfl⟩
    rw [ex, ey] at M CO
    rw [ex] at L2
    rw [ey] at L1
    clear hd ex ey R1 R2 D
    go_enter Try.func39, Try.ntmps39
    go_wp2_with fail
    refine CO.out.mono ?_
    rintro e w1 ⟨rfl, b1⟩
    have z1 := b1.size
    go_wp2_with fail
    refine (given_any x y _ L2 L1).mono ?_
    rintro e w2 ⟨rfl, b2⟩
    have b3 : Below w.heap.size w w2 := Below.trans (b1.alloc z1 _) (Below.mono b2 (by simp; omega))
    have z3 := b3.size
    go_wp2_with fail
    refine (indices_any (gvn x y) _ (gvn_lt L1)).mono ?_
    rintro e w4 ⟨r, rfl, o4, b4⟩
    go_wp2_with fail
    go_ret2
    refine ⟨_, ret_lb rfl HDY.out.symm, ?_, nxt b3 b4⟩
    rw [HR.out, ← M.out]
    exact o4.mono z3
  · have hd : dayB xs pl a = false := by simpa using hd
    have R := Lib.hid (gaR_no hd)
    have HDY := Lib.hid hd
    have CO := Lib.hid (changeOnDay_no _ _ _ _ a w HV.out HU.out hl HF.out hd)
    clear hd
    go_enter Try.func39, Try.ntmps39
    go_wp2_with fail
    refine CO.out.mono ?_
    rintro e w1 ⟨rfl, b1⟩
    have z1 := b1.size
    go_wp2_with fail
    go_ret2
    refine ⟨_, ret_lb rfl HDY.out.symm, ?_, b1.alloc z1 _⟩
    rw [R.out]
    exact World.ownsRow_nil _ _ _ _

set_option maxHeartbeats 2000000 in
set_option maxRecDepth 20000 in
theorem specGivenAt_any (v u : Value) (xs : List Int) (pl : List (List Int)) (a : Int) (w : World) (hv : Sv w v xs) (hu : Svv w u pl) (hl : xs.length ≤ 1099511627776) (hf : Few2 pl) :
    Calls Try.prog 38 #[v, u, .int .i64 a] w fun e w' => ∃ g, e = .returned (.tuple #[g, .bool (dayB xs pl a)]) ∧ Ow w' w.heap.size g (gaR xs pl a) ∧ Below w.heap.size w w' := by
  have HV := Lib.hid hv
  have HU := Lib.hid hu
  have HF := Lib.hid hf
  have hn : pl.length ≤ 1048576 := by unfold Few2 at hf; omega
  clear hv hf
  by_cases hd : dayB xs pl a = true
  · obtain ⟨d, rfl, D⟩ := dayB_iff hd
    have HDY := Lib.hid hd
    have HR := Lib.hid (gaR_yes hd)
    have R1 := (D.ok.row D.few D.lt).2.len
    have R2 := (D.ok.bef D.few D.lt).2.len
    have hlt := D.lt
    have d0 : (0 : Int) ≤ d := by omega
    have d1 : (d : Int) < pl.length := by omega
    obtain ⟨p, cap, rfl, hx⟩ := hu
    obtain ⟨b, off, rfl, hbl, hc⟩ := hx (by omega)
    obtain ⟨r0, hc0, hs0⟩ := hc d hlt
    have HS := Lib.hid hs0
    rw [hd]
    clear hd D hx hc hs0
    go_enter Try.func38, Try.ntmps38
    go_wp2_with fail
    refine (paDay_any _ _ _ _ _ _ HV.out HU.out hl HF.out).mono ?_
    rintro e w1 ⟨rfl, b1⟩
    rw [HDY.out]
    have hcell : w1.cell? ⟨b, off + d, none⟩ = some r0 := (b1.cell (p := ⟨b, off + d, none⟩) hbl).trans hc0
    have z1 := b1.size
    go_wp2
    go_region_with (first
      | (go_at_call 62; go_must (refine (paBefore_any _ _ d _ (HU.out.below (b1.trans (Below.mono (below_drewN (Below.refl _ _) _) z1)) (Nat.le_refl _)) hlt hn).mono ?_; rintro e w2 ⟨r, rfl, sr, ew⟩; subst ew; have SR := Lib.hid sr))
      | (go_at_call 68; go_must (refine (paOnly_any _ _ _ _ _ (HS.out.below (Below.trans (Below.mono b1 (Nat.le_refl _)) (Below.mono (below_drewN (Below.refl _ _) _) z1)) (Nat.le_refl _)) (by first | exact SR.out | exact SR.out.below (below_drewN (Below.refl _ _) _) (Nat.le_refl _)) R1 R2).mono ?_; rintro e w3 ⟨g3, rfl, o3, b3⟩)))
    all_goals
      have b4 : Below w.heap.size w w3 := Below.trans (Below.trans b1 (Below.mono (below_drewN (Below.refl _ _) _) z1)) (Below.mono b3 z1)
      go_wp2
      go_ret2
      refine ⟨_, ret_lb rfl rfl, ?_, b4⟩
      rw [HR.out]
      exact o3.mono z1
  · have hd : dayB xs pl a = false := by simpa using hd
    have R := Lib.hid (gaR_no hd)
    have HDY := Lib.hid hd
    clear hu
    rw [hd]
    clear hd
    go_enter Try.func38, Try.ntmps38
    go_wp2_with fail
    refine (paDay_any _ _ _ _ _ _ HV.out HU.out hl HF.out).mono ?_
    rintro e w1 ⟨rfl, b1⟩
    rw [HDY.out]
    go_wp2_with fail
    go_ret2
    refine ⟨_, ret_lb rfl rfl, ?_, b1⟩
    rw [R.out]
    exact World.ownsRow_nil _ _ _ _

noncomputable def taR (xs : List Int) (pl : List (List Int)) (a : Int) : List Int := if dayB xs pl a = true then onlyL (befL pl a.toNat) (nowL pl a.toNat) else []
theorem taR_yes {xs : List Int} {pl : List (List Int)} {d : Nat} (h : dayB xs pl d = true) : taR xs pl d = onlyL (befL pl d) (nowL pl d) := by simp [taR, h]
theorem taR_no {xs : List Int} {pl : List (List Int)} {a : Int} (h : dayB xs pl a = false) : taR xs pl a = [] := by simp [taR, h]
theorem taR_len (xs : List Int) (pl : List (List Int)) (a : Int) : (taR xs pl a).length ≤ 1099511627776 := by
  by_cases h : dayB xs pl a = true
  · obtain ⟨d, rfl, D⟩ := dayB_iff h
    rw [taR_yes h]
    have h1 := only_len (befL pl d) (nowL pl d)
    have h2 := (D.ok.row D.few D.lt).2.len
    have h3 := (D.ok.bef D.few D.lt).2.len
    omega
  · rw [taR_no (by simpa using h)]; simp

set_option maxHeartbeats 2000000 in
set_option maxRecDepth 20000 in
theorem implTakenAt_any (v u : Value) (xs : List Int) (pl : List (List Int)) (a : Int) (w : World) (hv : Sv w v xs) (hu : Svv w u pl) (hl : xs.length ≤ 1099511627776) (hf : Few2 pl) :
    Calls Try.prog 41 #[v, u, .int .i64 a] w fun e w' => ∃ g, e = .returned (.tuple #[g, .bool (dayB xs pl a)]) ∧ Ow w' w.heap.size g (taR xs pl a) ∧ Below w.heap.size w w' := by
  have HV := Lib.hid hv
  have HU := Lib.hid hu
  have HF := Lib.hid hf
  clear hv hu hf
  by_cases hd : dayB xs pl a = true
  · obtain ⟨d, rfl, D⟩ := dayB_iff hd
    have HDY := Lib.hid hd
    have HR := Lib.hid (taR_yes hd)
    have R1 := (D.ok.row D.few D.lt).2
    have R2 := (D.ok.bef D.few D.lt).2
    have L1 := mask_lt R1
    have L2 := mask_lt R2
    have M := Lib.hid (gvn_only R1 R2)
    have CO := Lib.hid (changeOnDay_yes _ _ _ _ d w HV.out HU.out HF.out D)
    obtain ⟨x, ex⟩ : ∃ x, maskL (befL pl d) = x := ⟨_, rfl⟩
    obtain ⟨y, ey⟩ : ∃ y, maskL (nowL pl d) = y := ⟨_, rfl⟩
    rw [ex, ey] at M CO
    rw [ex] at L2
    rw [ey] at L1
    clear hd ex ey R1 R2 D
    go_enter Try.func41, Try.ntmps41
    go_wp2_with fail
    refine CO.out.mono ?_
    rintro e w1 ⟨rfl, b1⟩
    have z1 := b1.size
    go_wp2_with fail
    refine (taken_any x y _ L2 L1).mono ?_
    rintro e w2 ⟨rfl, b2⟩
    have b3 : Below w.heap.size w w2 := Below.trans (b1.alloc z1 _) (Below.mono b2 (by simp; omega))
    have z3 := b3.size
    go_wp2_with fail
    refine (indices_any (gvn y x) _ (gvn_lt L2)).mono ?_
    rintro e w4 ⟨r, rfl, o4, b4⟩
    go_wp2_with fail
    go_ret2
    refine ⟨_, ret_lb rfl HDY.out.symm, ?_, nxt b3 b4⟩
    rw [HR.out, ← M.out]
    exact o4.mono z3
  · have hd : dayB xs pl a = false := by simpa using hd
    have R := Lib.hid (taR_no hd)
    have HDY := Lib.hid hd
    have CO := Lib.hid (changeOnDay_no _ _ _ _ a w HV.out HU.out hl HF.out hd)
    clear hd
    go_enter Try.func41, Try.ntmps41
    go_wp2_with fail
    refine CO.out.mono ?_
    rintro e w1 ⟨rfl, b1⟩
    have z1 := b1.size
    go_wp2_with fail
    go_ret2
    refine ⟨_, ret_lb rfl HDY.out.symm, ?_, b1.alloc z1 _⟩
    rw [R.out]
    exact World.ownsRow_nil _ _ _ _

set_option maxHeartbeats 2000000 in
set_option maxRecDepth 20000 in
theorem specTakenAt_any (v u : Value) (xs : List Int) (pl : List (List Int)) (a : Int) (w : World) (hv : Sv w v xs) (hu : Svv w u pl) (hl : xs.length ≤ 1099511627776) (hf : Few2 pl) :
    Calls Try.prog 40 #[v, u, .int .i64 a] w fun e w' => ∃ g, e = .returned (.tuple #[g, .bool (dayB xs pl a)]) ∧ Ow w' w.heap.size g (taR xs pl a) ∧ Below w.heap.size w w' := by
  have HV := Lib.hid hv
  have HU := Lib.hid hu
  have HF := Lib.hid hf
  have hn : pl.length ≤ 1048576 := by unfold Few2 at hf; omega
  clear hv hf
  by_cases hd : dayB xs pl a = true
  · obtain ⟨d, rfl, D⟩ := dayB_iff hd
    have HDY := Lib.hid hd
    have HR := Lib.hid (taR_yes hd)
    have R1 := (D.ok.row D.few D.lt).2.len
    have R2 := (D.ok.bef D.few D.lt).2.len
    have hlt := D.lt
    have d0 : (0 : Int) ≤ d := by omega
    have d1 : (d : Int) < pl.length := by omega
    obtain ⟨p, cap, rfl, hx⟩ := hu
    obtain ⟨b, off, rfl, hbl, hc⟩ := hx (by omega)
    obtain ⟨r0, hc0, hs0⟩ := hc d hlt
    have HS := Lib.hid hs0
    rw [hd]
    clear hd D hx hc hs0
    go_enter Try.func40, Try.ntmps40
    go_wp2_with fail
    refine (paDay_any _ _ _ _ _ _ HV.out HU.out hl HF.out).mono ?_
    rintro e w1 ⟨rfl, b1⟩
    rw [HDY.out]
    have hcell : w1.cell? ⟨b, off + d, none⟩ = some r0 := (b1.cell (p := ⟨b, off + d, none⟩) hbl).trans hc0
    have z1 := b1.size
    go_wp2
    go_region_with (first
      | (go_at_call 62; go_must (refine (paBefore_any _ _ d _ (HU.out.below (b1.trans (Below.mono (below_drewN (Below.refl _ _) _) z1)) (Nat.le_refl _)) hlt hn).mono ?_; rintro e w2 ⟨r, rfl, sr, ew⟩; subst ew; have SR := Lib.hid sr))
      | (go_at_call 68; go_must (refine (paOnly_any _ _ _ _ _ (by first | exact SR.out | exact SR.out.below (below_drewN (Below.refl _ _) _) (Nat.le_refl _)) (HS.out.below (Below.trans (Below.mono b1 (Nat.le_refl _)) (Below.mono (below_drewN (Below.refl _ _) _) z1)) (Nat.le_refl _)) R2 R1).mono ?_; rintro e w3 ⟨g3, rfl, o3, b3⟩)))
    all_goals
      have b4 : Below w.heap.size w w3 := Below.trans (Below.trans b1 (Below.mono (below_drewN (Below.refl _ _) _) z1)) (Below.mono b3 z1)
      go_wp2
      go_ret2
      refine ⟨_, ret_lb rfl rfl, ?_, b4⟩
      rw [HR.out]
      exact o3.mono z1
  · have hd : dayB xs pl a = false := by simpa using hd
    have R := Lib.hid (taR_no hd)
    have HDY := Lib.hid hd
    clear hu
    rw [hd]
    clear hd
    go_enter Try.func40, Try.ntmps40
    go_wp2_with fail
    refine (paDay_any _ _ _ _ _ _ HV.out HU.out hl HF.out).mono ?_
    rintro e w1 ⟨rfl, b1⟩
    rw [HDY.out]
    go_wp2_with fail
    go_ret2
    refine ⟨_, ret_lb rfl rfl, ?_, b1⟩
    rw [R.out]
    exact World.ownsRow_nil _ _ _ _
end Go.Proofs.Ytillkjkdpkgckaa
