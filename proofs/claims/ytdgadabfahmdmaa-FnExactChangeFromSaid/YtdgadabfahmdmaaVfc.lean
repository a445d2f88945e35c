/-
  FewestCoins in the model and in the program, by their contracts. Condition: slices of at most 2^40 numbers.
-/
import Derived.Test.YtdgadabfahmdmaaVfw
import Derived.Test.YtdgadabfahmdmaaVtp
namespace Go.Proofs.Ytdgadabfahmdmaa
open Go.RowKit

def nL (xs : List Int) : List Nat := xs.map Int.toNat
theorem nL_iL (cs : List Nat) : nL (iL cs) = cs := by
  simp [nL, iL, Function.comp_def]
noncomputable def fcB (xs : List Int) (a : Int) : Bool := askC xs a && decide (fo (nL xs) a.toNat < big)
noncomputable def fcR (xs : List Int) (a : Int) : Int := if fcB xs a = true then (fo (nL xs) a.toNat : Int) else 0
theorem fcB_no {xs : List Int} {a : Int} (h : askC xs a = false) : fcB xs a = false := by simp [fcB, h]
theorem fcR_no {xs : List Int} {a : Int} (h : fcB xs a = false) : fcR xs a = 0 := by simp [fcR, h]
theorem fcB_of {cs : List Nat} {n : Nat} (h : Cn cs) (hn : n ≤ 20000) : fcB (iL cs) n = decide (fo cs n < big) := by
  simp [fcB, askC_of h hn, nL_iL]
theorem fcB_yes {cs : List Nat} {n : Nat} (h : Cn cs) (hn : n ≤ 20000) (hf : fo cs n < big) : fcB (iL cs) n = true := by rw [fcB_of h hn]; simpa using hf
theorem fcB_none {cs : List Nat} {n : Nat} (h : Cn cs) (hn : n ≤ 20000) (hf : ¬ fo cs n < big) : fcB (iL cs) n = false := by rw [fcB_of h hn]; simpa using hf
theorem fcR_yes {cs : List Nat} {n : Nat} (h : Cn cs) (hn : n ≤ 20000) (hf : fo cs n < big) : fcR (iL cs) n = fo cs n := by
  simp [fcR, fcB_yes h hn hf, nL_iL]
theorem ret_ib {k : IntKind} {a b : Int} {c d : Bool} (h : a = b) (g : c = d) : Ending.returned (.tuple #[.int k a, .bool c]) = .returned (.tuple #[.int k b, .bool d]) := by rw [h, g]

set_option maxHeartbeats 2000000 in
theorem specFewestCoins_any (v : Value) (xs : List Int) (a : Int) (w : World) (h : Sp w v xs) (hl : xs.length ≤ 1099511627776) :
    Calls Try.prog 28 #[v, .int .i64 a] w fun e w' => e = .returned (.tuple #[.int .i64 (fcR xs a), .bool (fcB xs a)]) ∧ Below w.heap.size w w' := by
  by_cases hq : askC xs a = true
  · obtain ⟨cs, n, rfl, hc, rfl, hn⟩ := askC_yes hq
    have CA := Lib.hid (cnAsked_any v (iL cs) n w h.sv hl)
    have CF := fun w' (hb : Below w.heap.size w w') => Lib.hid (cnFew_any v cs n w' ((h.below hb (Nat.le_refl _)).sv) hc.pos hc.eight (by omega))
    rw [hq] at CA
    have B0 := Lib.hid (fun hf => fcB_none hc hn hf)
    have R0 := Lib.hid (fun hf => fcR_no (fcB_none hc hn hf))
    have B1 := Lib.hid (fun hf => fcB_yes hc hn hf)
    have R1 := Lib.hid (fun hf => fcR_yes hc hn hf)
    have ea := fewT_at cs n n (by omega)
    have el := fewT_len cs n
    have hp := hc.pos
    have hnn : (0 : Int) ≤ n := by omega
    clear h hl hc hq
    go_enter Try.func28, Try.ntmps28
    go_wp2_with fail
    refine CA.out.mono ?_
    rintro e w1 ⟨rfl, b1⟩
    go_wp2_with fail
    refine (CF w1 b1).out.mono ?_
    rintro e w2 ⟨u, rfl, ho, hoa, b2⟩
    have hs := ho.sv
    obtain ⟨p, cap, rfl, hx⟩ := hs
    obtain ⟨b, off, rfl, hbl, hcx⟩ := hx (by omega)
    have hcell := hcx n (by omega)
    rw [ea] at hcell
    rw [el]
    have i1 : (n : Int) < ((n + 1 : Nat) : Int) := by omega
    have b2 := nxt b1 b2
    by_cases hf : fo cs n < big
    · rw [fwI_yes hf] at hcell
      have hB := B1.out hf
      have hR := R1.out hf
      have hd : ¬ ((fo cs n : Nat) : Int) < 0 := by omega
      have HB := Lib.hid hB
      have HR := Lib.hid hR
      obtain ⟨z, ez⟩ : ∃ z, fo cs n = z := ⟨_, rfl⟩
      rw [ez] at hcell HR hd
      clear hB hR hcx hx ea ho ez hf
      go_wp2
      go_ret2
      exact ⟨ret_ib HR.out.symm HB.out.symm, b2⟩
    · rw [fwI_no hf] at hcell
      have HB := Lib.hid (B0.out hf)
      have HR := Lib.hid (R0.out hf)
      clear hcx hx ea ho hf
      go_wp2
      go_ret2
      exact ⟨ret_ib HR.out.symm HB.out.symm, b2⟩
  · have hq : askC xs a = false := by simpa using hq
    have CA := Lib.hid (cnAsked_any v xs a w h.sv hl)
    rw [hq] at CA
    have HB := Lib.hid (fcB_no hq)
    have HR := Lib.hid (fcR_no (fcB_no hq))
    go_enter Try.func28, Try.ntmps28
    go_wp2_with fail
    refine CA.out.mono ?_
    rintro e w1 ⟨rfl, b1⟩
    go_wp2_with fail
    go_ret2
    exact ⟨ret_ib HR.out.symm HB.out.symm, b1⟩

theorem tp_load {w : World} {g n : Nat} {F : Nat → Pd} (h : Tp w g n F) {j : Nat} (hj : j < n) {P : Pd} (e : F j = P) :
    w.cell? ⟨g, j * 3, none⟩ = some (.int .i64 (P.w : Int)) ∧ w.cell? ⟨g, j * 3 + 1, none⟩ = some (.int .i64 (P.f : Int)) ∧ w.cell? ⟨g, j * 3 + 2, none⟩ = some (.int .i64 (P.k : Int)) := by
  obtain ⟨c1, c2, c3, _⟩ := h.cells hj
  rw [e] at c1 c2 c3
  exact ⟨c1, c2, c3⟩

set_option maxHeartbeats 4000000 in
theorem implFewestCoins_any (v : Value) (xs : List Int) (a : Int) (w : World) (h : Sp w v xs) (hl : xs.length ≤ 1099511627776) :
    Calls Try.prog 29 #[v, .int .i64 a] w fun e w' => e = .returned (.tuple #[.int .i64 (fcR xs a), .bool (fcB xs a)]) ∧ Below w.heap.size w w' := by
  have AC := Lib.hid (areCoins_any v xs w h.sv hl)
  have IA := Lib.hid (isAmount_any a w)
  by_cases hc : cnsB xs = true
  · by_cases ha : amB a = true
    · have hq : askC xs a = true := by simp [askC, hc, ha]
      obtain ⟨cs, n, rfl, hc', rfl, hn⟩ := askC_yes hq
      rw [hc] at AC
      rw [ha] at IA
      have B0 := Lib.hid (fun hf => fcB_none hc' hn hf)
      have R0 := Lib.hid (fun hf => fcR_no (fcB_none hc' hn hf))
      have B1 := Lib.hid (fun hf => fcB_yes hc' hn hf)
      have R1 := Lib.hid (fun hf => fcR_yes hc' hn hf)
      obtain ⟨b, off, cap, rfl, _⟩ := id h
      have TP := Lib.hid (tablePaid_any (some ⟨b, off, none⟩) cap cs n w h.sv hc'.pos hc'.eight (by omega) (fun c hcc => by have := hc'.mem c hcc; omega))
      have PN := pdT_none hc'.pos 0 (a := n) (by unfold big; omega)
      have PF := fun hf => (pdT_few hc'.pos 0 (a := n) (by unfold big; omega) hf).1
      have PZ := (pdT_ok cs 0 8 hc'.pos (by have := hc'.eight; omega) n).z
      have FB := fo_big hc'.pos n
      have hnn : (0 : Int) ≤ n := by omega
      clear h hl hc ha hq hc'
      go_enter Try.func29, Try.ntmps29
      go_wp2_with (first | (go_at_call 20; refine AC.out.mono ?_; rintro e w' ⟨rfl, rfl⟩) | (go_at_call 55; refine IA.out.mono ?_; rintro e w' ⟨rfl, rfl⟩))
      refine TP.out.mono ?_
      rintro e w2 ⟨rfl, T, b2⟩
      obtain ⟨P, eP⟩ : ∃ P, pdT 0 cs n = P := ⟨_, rfl⟩
      obtain ⟨c1, c2, c3⟩ := tp_load T (j := n) (by omega) eP
      rw [eP] at PN PF PZ
      have i1 : (n : Int) < ((n + 1 : Nat) : Int) := by omega
      have hz := b2.size
      by_cases hw : P.w = 0
      · have := PZ hw
        subst this
        have hf : ¬ fo cs n < big := by have := PN.1 hw; omega
        have HB := Lib.hid (B0.out hf)
        have HR := Lib.hid (R0.out hf)
        simp only [Pd.z] at c1 c2 c3
        clear PN PF PZ eP T hf FB
        go_wp2
        go_quiet (fail)
        go_wp2
        go_ret2
        exact ⟨ret_ib HR.out.symm HB.out.symm, below_drewN (b2.alloc hz _) _⟩
      · have hf : fo cs n < big := by
          apply Classical.byContradiction
          intro g
          exact hw (PN.2 (by omega))
        have e1 := PF hf
        have HB := Lib.hid (B1.out hf)
        have HR := Lib.hid (R1.out hf)
        rw [← e1] at HR
        obtain ⟨x, ex⟩ : ∃ x, P.w = x := ⟨_, rfl⟩
        obtain ⟨y, ey⟩ : ∃ x, P.f = x := ⟨_, rfl⟩
        obtain ⟨z, ez⟩ : ∃ x, P.k = x := ⟨_, rfl⟩
        rw [ex] at c1 hw
        rw [ey] at c2 HR
        rw [ez] at c3
        have d : ((x : Int) == 0) = false := by rw [beq_eq_false_iff_ne]; omega
        clear PN PF PZ eP T hf FB ex ey ez e1
        go_wp2
        go_quiet (fail)
        go_wp2
        go_ret2
        exact ⟨ret_ib HR.out.symm HB.out.symm, below_drewN (b2.alloc hz _) _⟩
    · have ha : amB a = false := by simpa using ha
      have HB := Lib.hid (fcB_no (askC_out (xs := xs) ha))
      have HR := Lib.hid (fcR_no (fcB_no (askC_out (xs := xs) ha)))
      rw [hc] at AC
      rw [ha] at IA
      go_enter Try.func29, Try.ntmps29
      go_wp2_with (first | (go_at_call 20; refine AC.out.mono ?_; rintro e w' ⟨rfl, rfl⟩) | (go_at_call 55; refine IA.out.mono ?_; rintro e w' ⟨rfl, rfl⟩))
      go_ret2
      exact ⟨ret_ib HR.out.symm HB.out.symm, Below.refl _ _⟩
  · have hc : cnsB xs = false := by simpa using hc
    have HB := Lib.hid (fcB_no (askC_no (a := a) hc))
    have HR := Lib.hid (fcR_no (fcB_no (askC_no (a := a) hc)))
    rw [hc] at AC
    go_enter Try.func29, Try.ntmps29
    go_wp2_with (go_at_call 20; refine AC.out.mono ?_; rintro e w' ⟨rfl, rfl⟩)
    go_ret2
    exact ⟨ret_ib HR.out.symm HB.out.symm, Below.refl _ _⟩
end Go.Proofs.Ytdgadabfahmdmaa
