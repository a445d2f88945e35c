/-
  HeldAt in the model and in the program, by their contracts: the same answers. Condition: slices of at most 2^20 numbers in all.
-/
import Derived.Test.YtillkjkdpkgckaaPtop
namespace Go.Proofs.Ytillkjkdpkgckaa
open Go.RowKit

theorem ret_lb {a c : Value} {b d : Bool} (h : a = c) (g : b = d) : Ending.returned (.tuple #[a, .bool b]) = .returned (.tuple #[c, .bool d]) := by rw [h, g]
noncomputable def haR (xs : List Int) (pl : List (List Int)) (a : Int) : List Int := if dayB xs pl a = true then [sumAt xs 0 (nowL pl a.toNat), sumAt xs 0 (nowL pl a.toNat) - sumAt xs 0 (befL pl a.toNat)] else []
theorem haR_yes {xs : List Int} {pl : List (List Int)} {d : Nat} (h : dayB xs pl d = true) : haR xs pl d = [sumAt xs 0 (nowL pl d), sumAt xs 0 (nowL pl d) - sumAt xs 0 (befL pl d)] := by simp [haR, h]
theorem haR_no {xs : List Int} {pl : List (List Int)} {a : Int} (h : dayB xs pl a = false) : haR xs pl a = [] := by simp [haR, h]
theorem haR_len (xs : List Int) (pl : List (List Int)) (a : Int) : (haR xs pl a).length ≤ 1099511627776 := by
  unfold haR; split <;> simp
theorem ow_two (w : World) (a b : Int) : Ow (w.alloc (.cells #[.int .i64 a, .int .i64 b] 3)) w.heap.size (.slice (some ⟨w.heap.size, 0, none⟩) 2 2) [a, b] :=
  ⟨rfl, .inr ⟨w.heap.size, 2, _, rfl, Nat.le_refl _, heap_alloc_new w _, Nat.le_refl _, by unfold maxLen; omega, rfl, rfl⟩⟩
theorem sum_facts {xs : List Int} {pl : List (List Int)} {d : Nat} (D : DayIs xs pl d) :
    idx (maskL (nowL pl d)) = nowL pl d ∧ idx (maskL (befL pl d)) = befL pl d ∧ maskL (nowL pl d) < 256 ∧ maskL (befL pl d) < 256 ∧ (0 ≤ sumAt xs 0 (nowL pl d) ∧ sumAt xs 0 (nowL pl d) ≤ 80000) ∧ (0 ≤ sumAt xs 0 (befL pl d) ∧ sumAt xs 0 (befL pl d) ≤ 80000) := by
  have R1 := D.ok.row D.few D.lt
  have R2 := D.ok.bef D.few D.lt
  have l1 := R1.2.len
  have l2 := R2.2.len
  have s1 := sumAt_bd D.good (nowL pl d) fun x hx => by have := R1.1.mem x hx; omega
  have s2 := sumAt_bd D.good (befL pl d) fun x hx => by have := R2.1.mem x hx; omega
  exact ⟨idx_mask R1.2, idx_mask R2.2, mask_lt R1.2, mask_lt R2.2, ⟨s1.1, by omega⟩, ⟨s2.1, by omega⟩⟩

theorem pr_made (w : World) (x y : Nat) : Pr (w.alloc (.cells #[.int .u64 (x : Nat), .int .u64 (y : Nat)] 58)) w.heap.size x y :=
  ⟨#[.int .u64 (x : Nat), .int .u64 (y : Nat)], heap_alloc_new w _, rfl, rfl, rfl⟩

set_option maxHeartbeats 2000000 in
set_option maxRecDepth 20000 in
theorem implHeldAt_any (v u : Value) (xs : List Int) (pl : List (List Int)) (a : Int) (w : World) (hv : Sv w v xs) (hu : Svv w u pl) (hl : xs.length ≤ 1099511627776) (hf : Few2 pl) :
    Calls Try.prog 34 #[v, u, .int .i64 a] w fun e w' => ∃ g, e = .returned (.tuple #[g, .bool (dayB xs pl a)]) ∧ Ow w' w.heap.size g (haR xs pl a) ∧ Below w.heap.size w w' := by
  have HV := Lib.hid hv
  have HU := Lib.hid hu
  have HF := Lib.hid hf
  clear hv hu hf
  by_cases hd : dayB xs pl a = true
  · obtain ⟨d, rfl, D⟩ := dayB_iff hd
    have HDY := Lib.hid hd
    have HR := Lib.hid (haR_yes hd)
    have HDD := Lib.hid D
    obtain ⟨i1, i2, L1, L2, ⟨s1, s2⟩, ⟨s3, s4⟩⟩ := sum_facts D
    have CO := Lib.hid (changeOnDay_yes _ _ _ _ d w HV.out HU.out HF.out D)
    obtain ⟨x, ex⟩ : ∃ x, maskL (befL pl d) = x := ⟨_, rfl⟩
    obtain ⟨y, ey⟩ : ∃ y, maskL (nowL pl d) = y := ⟨_, rfl⟩
    obtain ⟨s, es⟩ : ∃ s, sumAt xs 0 (nowL pl d) = s := ⟨_, rfl⟩
    obtain ⟨t, et⟩ : ∃ t, sumAt xs 0 (befL pl d) = t := ⟨_, rfl⟩
    rw [ex, ey] at CO
    rw [ex] at L2 i2
    rw [ey] at L1 i1
    rw [es] at s1 s2 HR
    rw [et] at s3 s4 HR
    have ES := Lib.hid es
    have ET := Lib.hid et
    have I1 := Lib.hid i1
    have I2 := Lib.hid i2
    clear hd D ex ey es et i1 i2
    go_enter Try.func34, Try.ntmps34
    go_wp2_with fail
    refine CO.out.mono ?_
    rintro e w1 ⟨rfl, b1⟩
    have z1 := b1.size
    go_wp2_with fail
    have b2 : Below w.heap.size w (w1.alloc (.cells #[.int .u64 x, .int .u64 y] 58)) := b1.alloc z1 _
    have P2 := pr_made w1 x y
    have zz : w.heap.size ≤ (w1.alloc (.cells #[.int .u64 x, .int .u64 y] 58)).heap.size := b2.size
    obtain ⟨W, eW⟩ : ∃ W, w1.alloc (.cells #[.int .u64 x, .int .u64 y] 58) = W := ⟨_, rfl⟩
    rw [eW] at b2 P2 zz
    rw [eW]
    refine (sum_any y _ _ _ _ (HV.out.below b2 (Nat.le_refl _)) HDD.out.good L1 I1.out (HDD.out.ok.row HDD.out.few HDD.out.lt).1).mono ?_
    rw [ES.out]
    rintro e w2 ⟨rfl, b3⟩
    have P3 := P2.below b3 (Nat.le_refl _)
    obtain ⟨c1, c2, -, -⟩ := P3.cells
    have b4 := b2.trans (Below.mono b3 zz)
    clear b3 b2 P2 eW
    go_wp2_with fail
    refine (sum_any x _ _ _ _ (HV.out.below b4 (Nat.le_refl _)) HDD.out.good L2 I2.out (HDD.out.ok.bef HDD.out.few HDD.out.lt).1).mono ?_
    rw [ET.out]
    rintro e w3 ⟨rfl, b5⟩
    have z4 := b4.size
    have b6 := b4.trans (Below.mono b5 z4)
    have z6 := b6.size
    go_wp2_with fail
    go_ret2
    refine ⟨_, ret_lb rfl HDY.out.symm, ?_, b6.alloc z6 _⟩
    rw [HR.out]
    exact (ow_two w3 s (s - t)).mono z6
  · have hd : dayB xs pl a = false := by simpa using hd
    have R := Lib.hid (haR_no hd)
    have HDY := Lib.hid hd
    have CO := Lib.hid (changeOnDay_no _ _ _ _ a w HV.out HU.out hl HF.out hd)
    clear hd
    go_enter Try.func34, Try.ntmps34
    go_wp2_with fail
    refine CO.out.mono ?_
    rintro e w1 ⟨rfl, b1⟩
    have z1 := b1.size
    go_wp2_with fail
    go_ret2
    refine ⟨_, ret_lb rfl HDY.out.symm, ?_, b1.alloc z1 _⟩
    rw [R.out]
    exact World.ownsRow_nil _ _ _ _

set_option maxHeartbeats 2000000 in
set_option maxRecDepth 20000 in
theorem specHeldAt_any (v u : Value) (xs : List Int) (pl : List (List Int)) (a : Int) (w : World) (hv : Sv w v xs) (hu : Svv w u pl) (hl : xs.length ≤ 1099511627776) (hf : Few2 pl) :
    Calls Try.prog 33 #[v, u, .int .i64 a] w fun e w' => ∃ g, e = .returned (.tuple #[g, .bool (dayB xs pl a)]) ∧ Ow w' w.heap.size g (haR xs pl a) ∧ Below w.heap.size w w' := by
  have HV := Lib.hid hv
  have HU := Lib.hid hu
  have HF := Lib.hid hf
  have hn : pl.length ≤ 1048576 := by unfold Few2 at hf; omega
  clear hv hf
  by_cases hd : dayB xs pl a = true
  · obtain ⟨d, rfl, D⟩ := dayB_iff hd
    have HDY := Lib.hid hd
    have HR := Lib.hid (haR_yes hd)
    have HDD := Lib.hid D
    obtain ⟨-, -, -, -, ⟨s1, s2⟩, ⟨s3, s4⟩⟩ := sum_facts D
    have hlt := D.lt
    have h8 := D.few
    obtain ⟨s, es⟩ : ∃ s, sumAt xs 0 (nowL pl d) = s := ⟨_, rfl⟩
    obtain ⟨t, et⟩ : ∃ t, sumAt xs 0 (befL pl d) = t := ⟨_, rfl⟩
    rw [es] at s1 s2 HR
    rw [et] at s3 s4 HR
    have ES := Lib.hid es
    have ET := Lib.hid et
    have d0 : (0 : Int) ≤ d := by omega
    have d1 : (d : Int) < pl.length := by omega
    obtain ⟨p, cap, rfl, hx⟩ := hu
    obtain ⟨b, off, rfl, hbl, hc⟩ := hx (by omega)
    obtain ⟨r0, hc0, hs0⟩ := hc d hlt
    have HS := Lib.hid hs0
    rw [hd]
    clear hd D hx hc hs0 es et
    go_enter Try.func33, Try.ntmps33
    go_wp2_with fail
    refine (paDay_any _ _ _ _ _ _ HV.out HU.out hl HF.out).mono ?_
    rintro e w1 ⟨rfl, b1⟩
    rw [HDY.out]
    have hcell : w1.cell? ⟨b, off + d, none⟩ = some r0 := (b1.cell (p := ⟨b, off + d, none⟩) hbl).trans hc0
    have z1 := b1.size
    go_wp2_with fail
    refine (paHeld_any _ _ _ _ _ (HV.out.below b1 (Nat.le_refl _)) (HS.out.below b1 (Nat.le_refl _)) HDD.out.good h8 (HDD.out.ok.row HDD.out.few HDD.out.lt).1).mono ?_
    rw [show sumAt xs 0 (rowL pl d) = s from ES.out]
    rintro e w2 ⟨rfl, rfl⟩
    go_wp2_with fail
    refine (paBefore_any _ _ d _ (HU.out.below b1 (Nat.le_refl _)) hlt hn).mono ?_
    rintro e w3 ⟨r, rfl, sr, rfl⟩
    have SR := Lib.hid sr
    clear sr
    go_wp2_with fail
    refine (paHeld_any _ _ _ _ _ (HV.out.below b1 (Nat.le_refl _)) SR.out HDD.out.good h8 (HDD.out.ok.bef HDD.out.few HDD.out.lt).1).mono ?_
    rw [ET.out]
    rintro e w4 ⟨rfl, rfl⟩
    go_wp2_with fail
    go_ret2
    refine ⟨_, ret_lb rfl rfl, ?_, b1.alloc z1 _⟩
    rw [HR.out]
    exact (ow_two _ s (s - t)).mono z1
  · have hd : dayB xs pl a = false := by simpa using hd
    have R := Lib.hid (haR_no hd)
    have HDY := Lib.hid hd
    clear hu
    rw [hd]
    clear hd
    go_enter Try.func33, Try.ntmps33
    go_wp2_with fail
    refine (paDay_any _ _ _ _ _ _ HV.out HU.out hl HF.out).mono ?_
    rintro e w1 ⟨rfl, b1⟩
    rw [HDY.out]
    go_wp2_with fail
    go_ret2
    refine ⟨_, ret_lb rfl rfl, ?_, b1⟩
    rw [R.out]
    exact World.ownsRow_nil _ _ _ _
end Go.Proofs.Ytillkjkdpkgckaa
