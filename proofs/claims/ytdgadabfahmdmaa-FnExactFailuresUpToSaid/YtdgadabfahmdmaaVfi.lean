/-
  FailuresUpTo, FirstFailure and IsGreedy in the program, by their contracts. Condition: slices of at most 2^40 numbers.
-/
import Derived.Test.YtdgadabfahmdmaaVfu
namespace Go.Proofs.Ytdgadabfahmdmaa
open Go.RowKit

set_option maxHeartbeats 2000000 in
theorem max_any (v : Value) (cs : List Nat) (w : World) (h : Sp w v (iL cs)) (hc : Cn cs) :
    Calls Try.prog 69 #[v] w fun e w' => e = .returned (.int .i64 (lastC cs : Int)) ∧ Below w.heap.size w w' := by
  have hlen := iL_len cs
  have h1 := hc.one
  have h8 := hc.eight
  have hla := Lib.hid (lastC_at cs hc.ne)
  have HRS := Lib.hid hc.ris
  obtain ⟨b, off, cap, rfl, _, _, hbl, hcl⟩ := h
  rw [hlen] at hcl ⊢
  have HX : Hid (∀ j, j < cs.length → w.cell? ⟨b, off + j, none⟩ = some (.int .i64 ((cs.getD j 0 : Nat) : Int))) := Lib.hid (fun j hj => by rw [← iL_at]; exact hcl j hj)
  have c0 := HX.out 0 (by omega)
  rw [Nat.add_zero] at c0
  have j0 : ¬ (cs.length : Int) < 1 := by omega
  have j1 : (0 : Int) < cs.length := by omega
  clear hcl hc
  obtain ⟨x0, ex0⟩ : ∃ x, cs.getD 0 0 = x := ⟨_, rfl⟩
  rw [ex0] at c0
  have EX0 := Lib.hid ex0
  clear ex0
  go_enter Try.func69, Try.ntmps69
  go_wp2
  go_loop [3, 4] (fun t i => ∃ k : Nat, 1 ≤ k ∧ k ≤ cs.length ∧ i = .int .i64 (k : Int) ∧ t = .int .i64 ((cs.getD (k - 1) 0 : Nat) : Int)) (fun _ i => cs.length - (intOf i).toNat)
  case atStart => exact ⟨1, Nat.le_refl _, h1, rfl, by rw [← EX0.out]⟩
  case round =>
    obtain ⟨k, hk1, hk2, rfl, rfl⟩ := hrel
    by_cases hlt : k < cs.length
    · have hcell := HX.out k hlt
      have hr := HRS.out (k - 1) (by omega)
      rw [show k - 1 + 1 = k by omega] at hr
      obtain ⟨x, ex⟩ : ∃ x, cs.getD (k - 1) 0 = x := ⟨_, rfl⟩
      obtain ⟨y, ey⟩ : ∃ y, cs.getD k 0 = y := ⟨_, rfl⟩
      rw [ey] at hcell
      rw [ex, ey] at hr
      rw [ex]
      have EY := Lib.hid ey
      have j2 : (0 : Int) ≤ k := by omega
      have j3 : (k : Int) < cs.length := by omega
      have hmx : max (x : Int) (y : Int) = (y : Int) := by omega
      clear ex ey
      go_wp2
      go_round
      case rel => exact ⟨k + 1, by omega, by omega, by go_num, by rw [Nat.add_sub_cancel, EY.out]⟩
      case measure => simp [intOf]; omega
    · have hke : k = cs.length := by omega
      subst hke
      go_wp2
      go_ret
      exact ⟨ret_int (by rw [hla.out, List.getD_eq_getElem?_getD]), Below.refl _ _⟩

set_option maxHeartbeats 2000000 in
theorem implFailuresUpTo_any (v : Value) (xs : List Int) (a : Int) (w : World) (h : Sp w v xs) (hl : xs.length ≤ 1099511627776) :
    Calls Try.prog 39 #[v, .int .i64 a] w fun e w' => ∃ u, e = .returned (.tuple #[u, .bool (fuB xs a)]) ∧ Ow w' w.heap.size u (fuR xs a) ∧ Below w.heap.size w w' := by
  have AC := Lib.hid (areCoins_any v xs w h.sv hl)
  by_cases hc : cnsB xs = true
  · by_cases ha : inB a 0 2000 = true
    · have hq : fuB xs a = true := by simp [fuB, hc, ha]
      have HB := Lib.hid hq
      obtain ⟨cs, m, rfl, hc', rfl, hn⟩ := fuB_yes hq
      have HR := Lib.hid (fuR_yes hq)
      have FU := Lib.hid (failuresUpTo_any v cs m w h hc' (by omega))
      have i1 : ¬ (m : Int) < 0 := by omega
      have i2 : ¬ (2000 : Int) < m := by omega
      rw [hc] at AC
      clear h hl hc ha hq hc'
      go_enter Try.func39, Try.ntmps39
      go_wp2_with fail
      refine AC.out.mono ?_
      rintro e w' ⟨rfl, rfl⟩
      go_wp2_with fail
      refine FU.out.mono ?_
      rintro e w2 ⟨u, rfl, ho, b2⟩
      go_wp2_with fail
      go_ret2
      exact ⟨_, ret_lb rfl HB.out.symm, by rw [HR.out]; exact ho, b2⟩
    · have ha : inB a 0 2000 = false := by simpa using ha
      have HB := Lib.hid (fuB_out (xs := xs) ha)
      have HR := Lib.hid (fuR_no (fuB_out (xs := xs) ha))
      rw [hc] at AC
      by_cases h0 : a < 0
      · clear h hl hc ha
        go_enter Try.func39, Try.ntmps39
        go_wp2_with fail
        refine AC.out.mono ?_
        rintro e w' ⟨rfl, rfl⟩
        go_wp2_with fail
        go_ret2
        exact ⟨_, ret_lb rfl HB.out.symm, by rw [HR.out]; exact ow_nil _ _, Below.refl _ _⟩
      · have h2 : (2000 : Int) < a := by simp [inB] at ha; omega
        clear h hl hc ha
        go_enter Try.func39, Try.ntmps39
        go_wp2_with fail
        refine AC.out.mono ?_
        rintro e w' ⟨rfl, rfl⟩
        go_wp2_with fail
        go_ret2
        exact ⟨_, ret_lb rfl HB.out.symm, by rw [HR.out]; exact ow_nil _ _, Below.refl _ _⟩
  · have hc : cnsB xs = false := by simpa using hc
    have HB := Lib.hid (fuB_no (l := a) hc)
    have HR := Lib.hid (fuR_no (fuB_no (l := a) hc))
    rw [hc] at AC
    clear h hl hc
    go_enter Try.func39, Try.ntmps39
    go_wp2_with fail
    refine AC.out.mono ?_
    rintro e w' ⟨rfl, rfl⟩
    go_wp2_with fail
    go_ret2
    exact ⟨_, ret_lb rfl HB.out.symm, by rw [HR.out]; exact ow_nil _ _, Below.refl _ _⟩

set_option maxHeartbeats 2000000 in
theorem implFirstFailure_any (v : Value) (xs : List Int) (w : World) (h : Sp w v xs) (hl : xs.length ≤ 1099511627776) :
    Calls Try.prog 35 #[v] w fun e w' => e = .returned (.tuple #[.int .i64 (ffR xs), .bool (ffB xs)]) ∧ Below w.heap.size w w' := by
  have AC := Lib.hid (areCoins_any v xs w h.sv hl)
  by_cases hc : cnsB xs = true
  · obtain ⟨cs, rfl, hc'⟩ := cn_of hc
    have hlb := hc'.last_bd
    have MX := Lib.hid (max_any v cs w h hc')
    have FU := fun w' (hb : Below w.heap.size w w') => Lib.hid (failuresUpTo_any v cs (2 * lastC cs) w' (h.below hb (Nat.le_refl _)) hc' (by omega))
    have HB := Lib.hid (ffB_of hc')
    have HR := Lib.hid (fun (a : Nat) (h : ffO cs = some a) => ffR_of hc' h)
    have HZ := Lib.hid (fun (h : ffB (iL cs) = false) => ffR_no h)
    have HO : Hid (ffO cs = (flT cs (2 * lastC cs + 1)).head?) := Lib.hid rfl
    rw [hc] at AC
    clear h hl hc hc'
    obtain ⟨m, em⟩ : ∃ m, lastC cs = m := ⟨_, rfl⟩
    rw [em] at MX FU HO hlb
    obtain ⟨L, eL⟩ : ∃ L, flT cs (2 * m + 1) = L := ⟨_, rfl⟩
    rw [eL] at FU HO
    have hw : IntKind.i64.wrap (2 * (m : Int)) = ((2 * m : Nat) : Int) := (IntWalk.i64_in _ (by omega)).trans (by omega)
    clear em eL
    go_enter Try.func35, Try.ntmps35
    go_wp2_with fail
    refine AC.out.mono ?_
    rintro e w' ⟨rfl, rfl⟩
    go_wp2_with fail
    refine MX.out.mono ?_
    rintro e w1 ⟨rfl, b1⟩
    go_wp2_with fail
    refine (FU w1 b1).out.mono ?_
    rintro e w2 ⟨u, rfl, ho, b2⟩
    have b2 := nxt b1 b2
    have hlen := iL_len L
    obtain ⟨p, cap, rfl, hx⟩ := ho.sv
    rw [hlen] at hx ⊢
    cases L with
    | nil =>
      have B1 : Hid (ffB (iL cs) = false) := Lib.hid (by rw [HB.out, HO.out]; rfl)
      have R1 := Lib.hid (HZ.out B1.out)
      clear hx ho hlen FU
      go_wp2
      go_ret2
      exact ⟨ret_ib R1.out.symm B1.out.symm, b2⟩
    | cons f L =>
      have B1 : Hid (ffB (iL cs) = true) := Lib.hid (by rw [HB.out, HO.out]; rfl)
      have R1 := Lib.hid (HR.out f (by rw [HO.out]; rfl))
      obtain ⟨g, o, rfl, hg, hct⟩ := hx (by simp)
      have hcell := hct 0 (by simp)
      rw [Nat.add_zero, iL_at] at hcell
      have hcell : w2.cell? ⟨g, o, none⟩ = some (.int .i64 (f : Int)) := hcell
      obtain ⟨n, en⟩ : ∃ n, (f :: L).length = n := ⟨_, rfl⟩
      have hn : 1 ≤ n := by rw [← en]; simp
      rw [en]
      have d : ((n : Int) == 0) = false := by rw [beq_eq_false_iff_ne]; omega
      have j1 : (0 : Int) < n := by omega
      clear hx ho hlen FU hct en
      go_wp2
      go_ret2
      exact ⟨ret_ib R1.out.symm B1.out.symm, b2⟩
  · have hc : cnsB xs = false := by simpa using hc
    have HB := Lib.hid (ffB_no hc)
    have HR := Lib.hid (ffR_no (ffB_no hc))
    rw [hc] at AC
    clear h hl hc
    go_enter Try.func35, Try.ntmps35
    go_wp2_with fail
    refine AC.out.mono ?_
    rintro e w' ⟨rfl, rfl⟩
    go_wp2_with fail
    go_ret2
    exact ⟨ret_ib HR.out.symm HB.out.symm, Below.refl _ _⟩

theorem implIsGreedy_any (v : Value) (xs : List Int) (w : World) (h : Sp w v xs) (hl : xs.length ≤ 1099511627776) :
    Calls Try.prog 37 #[v] w fun e w' => e = .returned (.tuple #[.bool (igA xs), .bool (cnsB xs)]) ∧ Below w.heap.size w w' := by
  have AC := Lib.hid (areCoins_any v xs w h.sv hl)
  by_cases hc : cnsB xs = true
  · have FF := Lib.hid (implFirstFailure_any v xs w h hl)
    have HI := Lib.hid (igA_yes hc)
    rw [hc] at AC ⊢
    clear h hl hc
    go_enter Try.func37, Try.ntmps37
    go_wp2_with fail
    refine AC.out.mono ?_
    rintro e w' ⟨rfl, rfl⟩
    go_wp2_with fail
    refine FF.out.mono ?_
    rintro e w2 ⟨rfl, b2⟩
    go_wp2_with fail
    go_ret2
    exact ⟨ret_bb HI.out.symm rfl, b2⟩
  · have hc : cnsB xs = false := by simpa using hc
    have HI := Lib.hid (igA_no hc)
    rw [hc] at AC ⊢
    clear h hl hc
    go_enter Try.func37, Try.ntmps37
    go_wp2_with fail
    refine AC.out.mono ?_
    rintro e w' ⟨rfl, rfl⟩
    go_wp2_with fail
    go_ret2
    exact ⟨ret_bb HI.out.symm rfl, Below.refl _ _⟩
end Go.Proofs.Ytdgadabfahmdmaa
