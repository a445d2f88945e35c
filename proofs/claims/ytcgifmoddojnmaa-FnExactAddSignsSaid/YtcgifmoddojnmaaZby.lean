/-
  How a number is made by signs, in the program; CanBalance, WaysBoth and FewestBoth in the program, by contracts. Condition: slices of at most 2^40 numbers.
-/
import Derived.Test.YtcgifmoddojnmaaZtb
namespace Go.Proofs.Ytcgifmoddojnmaa
open Go.RowKit

noncomputable def vdA (xs : List Int) (s : Int) : Int := if askV xs s = true then Sy xs s else 0
noncomputable def vdB (xs : List Int) (s : Int) : Int := if askV xs s = true then Fs xs s else 0
noncomputable def vdC (xs : List Int) (s : Int) : Int := if askV xs s = true then Gs 0 xs s else 0
theorem vd_no {xs : List Int} {s : Int} (h : askV xs s = false) : vdA xs s = 0 ∧ vdB xs s = 0 ∧ vdC xs s = 0 := by simp [vdA, vdB, vdC, h]
theorem vd_yes {xs : List Int} {s : Int} (h : askV xs s = true) : vdA xs s = Sy xs s ∧ vdB xs s = Fs xs s ∧ vdC xs s = Gs 0 xs s := by simp [vdA, vdB, vdC, h]
theorem vd_zero {xs : List Int} {s : Int} (h : vdA xs s = 0) : vdB xs s = 0 ∧ vdC xs s = 0 := by
  by_cases ha : askV xs s = true
  · have R := vd_yes ha
    rw [R.1] at h
    rw [R.2.1, R.2.2]
    exact ⟨Fs_zero xs s h, Gs_zero xs 0 s h⟩
  · have ha : askV xs s = false := by simpa using ha
    exact (vd_no ha).2
theorem vdA_nn (xs : List Int) (s : Int) : 0 ≤ vdA xs s := by
  unfold vdA; split
  · exact (Sy_bd xs s).1
  · exact Int.le_refl _
theorem ret_md {a b c a2 b2 c2 : Int} {d e : Bool} (h1 : a = a2) (h2 : b = b2) (h3 : c = c2) (h4 : d = e) : Ending.returned (.tuple #[.agg #[.int .i64 a, .int .i64 b, .int .i64 c], .bool d]) = .returned (.tuple #[.agg #[.int .i64 a2, .int .i64 b2, .int .i64 c2], .bool e]) := by rw [h1, h2, h3, h4]
theorem ret_bb {a b c d : Bool} (h : a = b) (g : c = d) : Ending.returned (.tuple #[.bool a, .bool c]) = .returned (.tuple #[.bool b, .bool d]) := by rw [h, g]
theorem gsOk (xs : List Int) : StOk xs (Gs 0 xs) := ⟨Gs_even xs 0, Gs_zero xs 0⟩

set_option maxHeartbeats 4000000 in
set_option maxRecDepth 100000 in
theorem balancedBy_any (v : Value) (xs : List Int) (s : Int) (w : World) (h : Sp w v xs) (hl : xs.length ≤ 1099511627776) :
    Calls Try.prog 57 #[v, .int .i64 s] w fun e w' => e = .returned (.tuple #[.agg #[.int .i64 (vdA xs s), .int .i64 (vdB xs s), .int .i64 (vdC xs s)], .bool (askV xs s)]) ∧ Below w.heap.size w w' := by
  by_cases hg : sideB xs = true
  · have hgood := (sideB_iff.1 hg).1
    by_cases hi : inB s 0 1000000 = true
    · have hask := askV_yes hg hi
      have R := Lib.hid (vd_yes hask)
      have HA := Lib.hid hask
      obtain ⟨hs0, hs1⟩ := inB_iff.1 hi
      have htop := hgood.top
      have HMM := Lib.hid hgood.mem
      have HSU : Hid (sumFrom 0 xs ≤ 200000) := Lib.hid (by have := hgood.sum; unfold sumP at this; omega)
      clear hask
      go_enter Try.func57, Try.ntmps57
      go_wp2_with fail
      have b0 : Below w.heap.size w (w.alloc (.cells #[.int .i64 0, .int .i64 0, .int .i64 0] 52)) := (Below.refl _ _).alloc (Nat.le_refl _) _
      have old : Tb (w.alloc (.cells #[.int .i64 0, .int .i64 0, .int .i64 0] 52)) w.heap.size 1 (fun _ => 0) (fun _ => 0) (fun _ => 0) := tb_new3 w
      refine (areSide_any _ _ _ (h.sv.below b0 (Nat.le_refl _)) hl).mono ?_
      rintro e w1 ⟨rfl, b1⟩
      have old1 := old.below b1 (Nat.le_refl _)
      have b1 := b0.trans (b1.mono b0.size)
      clear old b0
      go_wp2_with fail
      refine (isAskedV_any _ _).mono ?_
      rintro e w1' ⟨rfl, rfl⟩
      go_wp2_with fail
      refine (tableBoth_any _ _ _ (h.below b1 (Nat.le_refl _)) hgood).mono ?_
      rintro e w2 ⟨g, rfl, hgs, htb, b2⟩
      have old2 := old1.below b2 (Nat.le_refl _)
      have b2 := nxt b1 b2
      clear old1 b1
      go_wp2_with fail
      refine (valueIn_any g _ (Gs 0 xs) xs s _ htb (gsOk xs) rfl HMM.out HSU.out (by omega) (by omega)).mono ?_
      rintro e w3 ⟨rfl, b3⟩
      have old3 := old2.below b3 (Nat.le_refl _)
      have b3 := nxt b2 b3
      clear old2 b2 htb
      obtain ⟨c1, c2, c3, f1, f2, f3⟩ := old3.cells (j := 0) (by omega)
      simp only [Nat.zero_mul, Nat.zero_add] at c1 c2 c3 f1 f2 f3
      obtain ⟨a, ea⟩ : ∃ a, Sy xs s = a := ⟨_, rfl⟩
      obtain ⟨b, eb⟩ : ∃ b, Fs xs s = b := ⟨_, rfl⟩
      obtain ⟨c, ec⟩ : ∃ c, Gs 0 xs s = c := ⟨_, rfl⟩
      rw [ea, eb, ec] at R
      rw [ea, eb, ec]
      clear ea eb ec
      go_wp2_with fail
      obtain ⟨k1, k2, k3, -, -, -⟩ := (Tb.set (j := 0) old3 a b c).cells (j := 0) (by omega)
      simp only [Nat.zero_mul, Nat.zero_add, if_pos] at k1 k2 k3
      refine bodyPost_ret (v := .tuple #[.agg #[.int .i64 a, .int .i64 b, .int .i64 c], .bool true]) (by simp [k1, k2, k3, results, Try.results57, go_sem]) rfl ⟨ret_md R.out.1.symm R.out.2.1.symm R.out.2.2.symm HA.out.symm, ?_⟩
      exact ((b3.setCell (Nat.le_refl _) _).setCell (Nat.le_refl _) _).setCell (Nat.le_refl _) _
    · have hi : inB s 0 1000000 = false := by simpa using hi
      have hask := askV_out (xs := xs) hi
      have HA := Lib.hid hask
      have Z := Lib.hid (vd_no hask)
      clear hask
      go_enter Try.func57, Try.ntmps57
      go_wp2_with fail
      have b0 : Below w.heap.size w (w.alloc (.cells #[.int .i64 0, .int .i64 0, .int .i64 0] 52)) := (Below.refl _ _).alloc (Nat.le_refl _) _
      have old : Tb (w.alloc (.cells #[.int .i64 0, .int .i64 0, .int .i64 0] 52)) w.heap.size 1 (fun _ => 0) (fun _ => 0) (fun _ => 0) := tb_new3 w
      refine (areSide_any _ _ _ (h.sv.below b0 (Nat.le_refl _)) hl).mono ?_
      rintro e w1 ⟨rfl, b1⟩
      have old1 := old.below b1 (Nat.le_refl _)
      have b1 := b0.trans (b1.mono b0.size)
      clear old b0
      go_wp2_with fail
      refine (isAskedV_any _ _).mono ?_
      rintro e w1' ⟨rfl, rfl⟩
      obtain ⟨c1, c2, c3, f1, f2, f3⟩ := old1.cells (j := 0) (by omega)
      simp only [Nat.zero_mul, Nat.zero_add] at c1 c2 c3 f1 f2 f3
      go_wp2_with fail
      obtain ⟨k1, k2, k3, -, -, -⟩ := (Tb.set (j := 0) old1 0 0 0).cells (j := 0) (by omega)
      simp only [Nat.zero_mul, Nat.zero_add, if_pos] at k1 k2 k3
      refine bodyPost_ret (v := .tuple #[.agg #[.int .i64 0, .int .i64 0, .int .i64 0], .bool false]) (by simp [k1, k2, k3, results, Try.results57, go_sem]) rfl ⟨ret_md Z.out.1.symm Z.out.2.1.symm Z.out.2.2.symm HA.out.symm, ?_⟩
      exact ((b1.setCell (Nat.le_refl _) _).setCell (Nat.le_refl _) _).setCell (Nat.le_refl _) _
  · have hg : sideB xs = false := by simpa using hg
    have hask := askV_no (n := s) hg
    have HA := Lib.hid hask
    have Z := Lib.hid (vd_no hask)
    clear hask
    go_enter Try.func57, Try.ntmps57
    go_wp2_with fail
    have b0 : Below w.heap.size w (w.alloc (.cells #[.int .i64 0, .int .i64 0, .int .i64 0] 52)) := (Below.refl _ _).alloc (Nat.le_refl _) _
    have old : Tb (w.alloc (.cells #[.int .i64 0, .int .i64 0, .int .i64 0] 52)) w.heap.size 1 (fun _ => 0) (fun _ => 0) (fun _ => 0) := tb_new3 w
    refine (areSide_any _ _ _ (h.sv.below b0 (Nat.le_refl _)) hl).mono ?_
    rintro e w1 ⟨rfl, b1⟩
    have old1 := old.below b1 (Nat.le_refl _)
    have b1 := b0.trans (b1.mono b0.size)
    clear old b0
    obtain ⟨c1, c2, c3, f1, f2, f3⟩ := old1.cells (j := 0) (by omega)
    simp only [Nat.zero_mul, Nat.zero_add] at c1 c2 c3 f1 f2 f3
    go_wp2_with fail
    obtain ⟨k1, k2, k3, -, -, -⟩ := (Tb.set (j := 0) old1 0 0 0).cells (j := 0) (by omega)
    simp only [Nat.zero_mul, Nat.zero_add, if_pos] at k1 k2 k3
    refine bodyPost_ret (v := .tuple #[.agg #[.int .i64 0, .int .i64 0, .int .i64 0], .bool false]) (by simp [k1, k2, k3, results, Try.results57, go_sem]) rfl ⟨ret_md Z.out.1.symm Z.out.2.1.symm Z.out.2.2.symm HA.out.symm, ?_⟩
    exact ((b1.setCell (Nat.le_refl _) _).setCell (Nat.le_refl _) _).setCell (Nat.le_refl _) _

noncomputable def canV (xs : List Int) (s : Int) : Bool := !(vdA xs s == 0)
noncomputable def fewV (xs : List Int) (s : Int) : Bool := askV xs s && !(vdA xs s == 0)

set_option maxHeartbeats 2000000 in
theorem implCanBalance_any (v : Value) (xs : List Int) (s : Int) (w : World) (h : Sp w v xs) (hl : xs.length ≤ 1099511627776) :
    Calls Try.prog 21 #[v, .int .i64 s] w fun e w' => e = .returned (.tuple #[.bool (canV xs s), .bool (askV xs s)]) ∧ Below w.heap.size w w' := by
  by_cases hz : vdA xs s = 0
  · have Z := vd_zero hz
    have C := Lib.hid (show canV xs s = false by unfold canV; rw [hz]; rfl)
    have H1 := Lib.hid hz
    have H2 := Lib.hid Z
    clear hz Z
    go_enter Try.func21, Try.ntmps21
    go_wp2_with fail
    refine (balancedBy_any _ _ _ _ h hl).mono ?_
    rintro e w1 ⟨rfl, b1⟩
    rw [H1.out, H2.out.1, H2.out.2]
    go_wp2_with fail
    go_ret2
    exact ⟨ret_bb C.out.symm rfl, b1.alloc b1.size _⟩
  · have C := Lib.hid (show canV xs s = true by unfold canV; simpa using hz)
    have d : (vdA xs s == 0) = false := by simpa using hz
    clear hz
    go_enter Try.func21, Try.ntmps21
    go_wp2_with fail
    refine (balancedBy_any _ _ _ _ h hl).mono ?_
    rintro e w1 ⟨rfl, b1⟩
    go_wp2_with fail
    go_ret2
    exact ⟨ret_bb C.out.symm rfl, b1.alloc b1.size _⟩

set_option maxHeartbeats 2000000 in
theorem implWaysBoth_any (v : Value) (xs : List Int) (s : Int) (w : World) (h : Sp w v xs) (hl : xs.length ≤ 1099511627776) :
    Calls Try.prog 24 #[v, .int .i64 s] w fun e w' => e = .returned (.tuple #[.int .i64 (vdA xs s), .bool (askV xs s)]) ∧ Below w.heap.size w w' := by
  go_enter Try.func24, Try.ntmps24
  go_wp2_with fail
  refine (balancedBy_any _ _ _ _ h hl).mono ?_
  rintro e w1 ⟨rfl, b1⟩
  go_wp2_with fail
  go_ret2
  exact ⟨rfl, b1.alloc b1.size _⟩

set_option maxHeartbeats 4000000 in
set_option maxRecDepth 100000 in
theorem implFewestBoth_any (v : Value) (xs : List Int) (s : Int) (w : World) (h : Sp w v xs) (hl : xs.length ≤ 1099511627776) :
    Calls Try.prog 28 #[v, .int .i64 s] w fun e w' => e = .returned (.tuple #[.int .i64 (vdB xs s), .bool (fewV xs s)]) ∧ Below w.heap.size w w' := by
  by_cases hz : vdA xs s = 0
  · have Z := vd_zero hz
    have R := Lib.hid (show fewV xs s = false by simp [fewV, hz])
    have H1 := Lib.hid hz
    have H2 := Lib.hid Z
    clear hz Z
    go_enter Try.func28, Try.ntmps28
    go_wp2_with fail
    refine (balancedBy_any _ _ _ _ h hl).mono ?_
    rintro e w1 ⟨rfl, b1⟩
    rw [H1.out, H2.out.1, H2.out.2]
    cases hk : askV xs s
    · go_wp2_with fail
      go_quiet (fail)
      go_wp2_with fail
      go_ret2
      exact ⟨ret_ib H2.out.1.symm R.out.symm, below_drewN (b1.alloc b1.size _) _⟩
    · go_wp2_with fail
      go_quiet (fail)
      go_wp2_with fail
      go_ret2
      exact ⟨ret_ib H2.out.1.symm R.out.symm, below_drewN (b1.alloc b1.size _) _⟩
  · have ha : askV xs s = true := by
      by_cases ha : askV xs s = true
      · exact ha
      · exact absurd (vd_no (by simpa using ha)).1 hz
    have R := Lib.hid (show fewV xs s = true by simp [fewV, hz, ha])
    have d : (vdA xs s == 0) = false := by simpa using hz
    have HA := Lib.hid ha
    clear hz ha
    go_enter Try.func28, Try.ntmps28
    go_wp2_with fail
    refine (balancedBy_any _ _ _ _ h hl).mono ?_
    rintro e w1 ⟨rfl, b1⟩
    rw [HA.out]
    obtain ⟨A, eA⟩ : ∃ A, vdA xs s = A := ⟨_, rfl⟩
    obtain ⟨B, eB⟩ : ∃ B, vdB xs s = B := ⟨_, rfl⟩
    obtain ⟨C, eC⟩ : ∃ C, vdC xs s = C := ⟨_, rfl⟩
    rw [eA] at d
    rw [eA, eB, eC]
    have HB := Lib.hid eB
    clear eA eB eC
    go_wp2_with fail
    go_quiet (fail)
    go_wp2_with fail
    go_ret2
    exact ⟨ret_ib HB.out.symm R.out.symm, below_drewN (b1.alloc b1.size _) _⟩

end Go.Proofs.Ytcgifmoddojnmaa
