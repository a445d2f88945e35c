/-
  CanChange in the model and in the program, by their contracts. Condition: slices of at most 2^40 numbers.
-/
import Derived.Test.YtdgadabfahmdmaaVdg
import Derived.Test.YtdgadabfahmdmaaVdt
import Derived.Test.YtdgadabfahmdmaaVdf
namespace Go.Proofs.Ytdgadabfahmdmaa
open Go.RowKit

noncomputable def ccB (xs ps : List Int) (a : Int) : Bool := askP xs ps a && cB (nL xs) (nL ps) a.toNat
noncomputable def cfR (xs ps : List Int) (a : Int) : List Int := if ccB xs ps a = true then iL (pf (nL xs) (nL ps) a.toNat) else []
theorem ccB_no {xs ps : List Int} {a : Int} (h : askP xs ps a = false) : ccB xs ps a = false := by simp [ccB, h]
theorem ccB_of {cs pl : List Nat} {n : Nat} (h : askP (iL cs) (iL pl) n = true) : ccB (iL cs) (iL pl) n = cB cs pl n := by simp [ccB, h, nL_iL]
theorem cfR_no {xs ps : List Int} {a : Int} (h : ccB xs ps a = false) : cfR xs ps a = [] := by simp [cfR, h]
theorem cfR_yes {cs pl : List Nat} {n : Nat} (h : ccB (iL cs) (iL pl) n = true) : cfR (iL cs) (iL pl) n = iL (pf cs pl n) := by simp [cfR, h, nL_iL]
theorem pf_le : ∀ (cs ps : List Nat) (a : Nat), (pf cs ps a).length ≤ cs.length := by
  intro cs
  induction cs with
  | nil => intro ps a; cases ps <;> exact Nat.le_refl _
  | cons c cs ih =>
    intro ps a
    cases ps with
    | nil => exact Nat.zero_le _
    | cons p ps => simp only [pf, List.length_cons]; have := ih ps (a - (us c p (cB cs ps) a).toNat * c); omega
theorem cfR_len (xs ps : List Int) (a : Int) (h : xs.length ≤ 1099511627776) : (cfR xs ps a).length ≤ 1099511627776 := by
  unfold cfR
  split
  · have := pf_le (nL xs) (nL ps) a.toNat
    rw [iL_len]
    have e : (nL xs).length = xs.length := by simp [nL]
    omega
  · simp
theorem ret_bb {a b c d : Bool} (h : a = b) (g : c = d) : Ending.returned (.tuple #[.bool a, .bool c]) = .returned (.tuple #[.bool b, .bool d]) := by rw [h, g]
theorem sp_parts {w : World} {v : Value} {cs : List Nat} (h : Sp w v (iL cs)) : ∃ b off cap, v = .slice (some ⟨b, off, none⟩) (iL cs).length cap ∧ b < w.heap.size ∧ (∀ j, j < (iL cs).length → w.cell? ⟨b, off + j, none⟩ = some (.int .i64 ((iL cs).getD j 0))) ∧ (∀ j, j < cs.length → w.cell? ⟨b, off + j, none⟩ = some (.int .i64 ((cs.getD j 0 : Nat) : Int))) := by
  obtain ⟨b, off, cap, h1, h2, h3, h4, h5⟩ := h
  exact ⟨b, off, cap, h1, h4, h5, fun j hj => by rw [← iL_at]; exact h5 j (by rw [iL_len]; exact hj)⟩

set_option maxHeartbeats 4000000 in
set_option maxRecDepth 100000 in
theorem specCanChange_any (v : Value) (xs : List Int) (u : Value) (ps : List Int) (a : Int) (w : World) (h : Sp w v xs) (hl : xs.length ≤ 1099511627776) (g : Sp w u ps) (gl : ps.length ≤ 1099511627776) :
    Calls Try.prog 40 #[v, u, .int .i64 a] w fun e w' => e = .returned (.tuple #[.bool (ccB xs ps a), .bool (askP xs ps a)]) ∧ Below w.heap.size w w' := by
  have CA := Lib.hid (cnPurse_any v u xs ps a w h.sv g.sv hl gl)
  by_cases hq : askP xs ps a = true
  · have HB := Lib.hid hq
    rw [hq] at CA
    obtain ⟨cs, pl, n, rfl, rfl, hc, hlp, rfl, hn⟩ := askP_iff hq
    have HC := Lib.hid (ccB_of hq)
    have CF := fun w' (hb : Below w.heap.size w w') => Lib.hid (cnFrom_any v u cs pl n w' ((h.below hb (Nat.le_refl _)).sv) ((g.below hb (Nat.le_refl _)).sv) hc.pos hlp hc.eight (by omega))
    have i1 : (n : Int) < ((n + 1 : Nat) : Int) := by omega
    have hnn : (0 : Int) ≤ n := by omega
    clear h g hl gl hq hc hlp
    go_enter Try.func40, Try.ntmps40
    go_wp2_with fail
    refine CA.out.mono ?_
    rintro e w1 ⟨rfl, b1⟩
    go_wp2_with fail
    refine (CF w1 b1).out.mono ?_
    rintro e w2 ⟨rfl, hr, b2⟩
    have hcell := hr.cell (i := n) (by omega)
    rw [← HC.out] at hcell
    have b2 := nxt b1 b2
    clear hr
    go_wp2
    go_ret2
    exact ⟨ret_bb rfl HB.out.symm, b2⟩
  · have hq : askP xs ps a = false := by simpa using hq
    rw [hq] at CA
    have HB := Lib.hid hq
    have HC := Lib.hid (ccB_no hq)
    clear hq
    go_enter Try.func40, Try.ntmps40
    go_wp2_with fail
    refine CA.out.mono ?_
    rintro e w1 ⟨rfl, b1⟩
    go_wp2_with fail
    go_ret2
    exact ⟨ret_bb HC.out.symm HB.out.symm, b1⟩

theorem askP_p {xs ps : List Int} {a : Int} (h : purB xs ps = false) : askP xs ps a = false := by simp [askP, h]
theorem askP_a {xs ps : List Int} {a : Int} (h : amB a = false) : askP xs ps a = false := by simp [askP, h]

set_option maxHeartbeats 4000000 in
set_option maxRecDepth 100000 in
theorem implCanChange_any (v : Value) (xs : List Int) (u : Value) (ps : List Int) (a : Int) (w : World) (h : Sp w v xs) (hl : xs.length ≤ 1099511627776) (g : Sp w u ps) (gl : ps.length ≤ 1099511627776) :
    Calls Try.prog 41 #[v, u, .int .i64 a] w fun e w' => e = .returned (.tuple #[.bool (ccB xs ps a), .bool (askP xs ps a)]) ∧ Below w.heap.size w w' := by
  have AC := Lib.hid (isPurse_any v u xs ps w h.sv g.sv hl gl)
  have IA := Lib.hid (isAmount_any a w)
  by_cases hp : purB xs ps = true
  · by_cases ha : amB a = true
    · have hq : askP xs ps a = true := by simp [askP, hp, ha]
      rw [hp] at AC
      rw [ha] at IA
      have HB := Lib.hid hq
      obtain ⟨cs, pl, n, rfl, rfl, hc, hlp, rfl, hn⟩ := askP_iff hq
      have HC := Lib.hid (ccB_of hq)
      have hlq := iL_len cs
      have hlq2 := iL_len pl
      obtain ⟨b, off, cap, rfl, hbl, hx, -⟩ := sp_parts h
      obtain ⟨b2, off2, cap2, rfl, hbl2, -, hx2⟩ := sp_parts g
      rw [show (iL pl).length = (iL cs).length by omega] at AC ⊢
      have TP := Lib.hid (tableDrawn_any cap b off cap2 b2 off2 cs pl n w hbl hbl2 hx (fun j hj => hx2 j (by omega)) hc.pos hlp hc.eight (by omega) (fun c hcc => by have := hc.mem c hcc; omega))
      have DC := dr_can cs pl 0 hc.pos hlp (by have := hc.one; omega) n
      have hnn : (0 : Int) ≤ n := by omega
      have i1 : (n : Int) < (n : Int) + 1 := by omega
      clear h g hl gl hp ha hq hc hlp hlq hlq2 hx hx2
      go_enter Try.func41, Try.ntmps41
      go_wp2_with (first | (go_at_call 73; refine AC.out.mono ?_; rintro e w' ⟨rfl, rfl⟩) | (go_at_call 55; refine IA.out.mono ?_; rintro e w' ⟨rfl, rfl⟩))
      refine TP.out.mono ?_
      rintro e w2 ⟨rfl, T, b2⟩
      obtain ⟨P, eP⟩ : ∃ P, drT 0 cs pl n = P := ⟨_, rfl⟩
      obtain ⟨c1, c2⟩ := dp_load T (j := n) (by omega) eP
      rw [eP] at DC
      rcases DC with ⟨g1, g2⟩ | ⟨g1, -, g3⟩
      · subst g2
        have R := Lib.hid (HC.out.trans g1)
        simp only [Dr.z] at c1 c2
        clear g1 eP T
        go_wp2
        go_ret2
        exact ⟨ret_bb R.out.symm HB.out.symm, b2⟩
      · have R := Lib.hid (HC.out.trans g1)
        obtain ⟨z0, ez0⟩ : ∃ y, P.k = y := ⟨_, rfl⟩
        obtain ⟨z1, ez1⟩ : ∃ y, P.t = y := ⟨_, rfl⟩
        rw [ez0] at c1 g3
        rw [ez1] at c2 g3
        clear g1 eP T ez0 ez1
        by_cases hz0 : z0 = 0
        · subst hz0
          have hz1 : ((z1 : Int) == 0) = false := by rw [beq_eq_false_iff_ne]; omega
          have c1 : w2.cell? ⟨w.heap.size + 2, n * 2, none⟩ = some (.int .i64 0) := c1
          clear g3
          go_wp2
          go_ret2
          exact ⟨ret_bb R.out.symm HB.out.symm, b2⟩
        · have hz1 : ((z0 : Int) == 0) = false := by rw [beq_eq_false_iff_ne]; omega
          clear g3
          go_wp2
          go_ret2
          exact ⟨ret_bb R.out.symm HB.out.symm, b2⟩
    · have ha : amB a = false := by simpa using ha
      have HB := Lib.hid (askP_a (xs := xs) (ps := ps) ha)
      have HC := Lib.hid (ccB_no HB.out)
      rw [hp] at AC
      rw [ha] at IA
      clear hp ha
      go_enter Try.func41, Try.ntmps41
      go_wp2_with (first | (go_at_call 73; refine AC.out.mono ?_; rintro e w' ⟨rfl, rfl⟩) | (go_at_call 55; refine IA.out.mono ?_; rintro e w' ⟨rfl, rfl⟩))
      go_ret2
      exact ⟨ret_bb HC.out.symm HB.out.symm, Below.refl _ _⟩
  · have hp : purB xs ps = false := by simpa using hp
    have HB := Lib.hid (askP_p (a := a) hp)
    have HC := Lib.hid (ccB_no HB.out)
    rw [hp] at AC
    clear hp
    go_enter Try.func41, Try.ntmps41
    go_wp2_with (go_at_call 73; refine AC.out.mono ?_; rintro e w' ⟨rfl, rfl⟩)
    go_ret2
    exact ⟨ret_bb HC.out.symm HB.out.symm, Below.refl _ _⟩
end Go.Proofs.Ytdgadabfahmdmaa
