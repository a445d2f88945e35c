/-
  A purse for coins: the model's and the program's guard, by their contracts. Condition: slices of at most 2^40 numbers.
-/
import Derived.Test.YtdgadabfahmdmaaVfc
namespace Go.Proofs.Ytdgadabfahmdmaa
open Go.RowKit

noncomputable def purB (xs ps : List Int) : Bool := cnsB xs && decide (ps.length = xs.length) && allB ps 0 1000
noncomputable def askP (xs ps : List Int) (a : Int) : Bool := purB xs ps && amB a
theorem purB_no {xs ps : List Int} (h : cnsB xs = false) : purB xs ps = false := by simp [purB, h]
theorem purB_len {xs ps : List Int} (h : ps.length ≠ xs.length) : purB xs ps = false := by simp [purB, h]
theorem purB_all {xs ps : List Int} (h : allB ps 0 1000 = false) : purB xs ps = false := by simp [purB, h]
theorem purB_yes {xs ps : List Int} (h : cnsB xs = true) (h2 : ps.length = xs.length) : purB xs ps = allB ps 0 1000 := by simp [purB, h, h2]
theorem askP_no {xs ps : List Int} {a : Int} (h : askC xs a = false) : askP xs ps a = false := by
  unfold askC at h
  unfold askP purB
  cases h1 : cnsB xs <;> cases h2 : amB a <;> simp [h1, h2] at h ⊢
theorem askP_len {xs ps : List Int} {a : Int} (h : ps.length ≠ xs.length) : askP xs ps a = false := by simp [askP, purB_len h]
theorem askP_yes' {xs ps : List Int} {a : Int} (h : askC xs a = true) (h2 : ps.length = xs.length) : askP xs ps a = allB ps 0 1000 := by
  unfold askC at h
  unfold askP purB
  cases h1 : cnsB xs <;> cases h3 : amB a <;> simp [h1, h3] at h ⊢
  intro _; exact h2
theorem iL_nL {ps : List Int} (h : ∀ x ∈ ps, 0 ≤ x) : iL (nL ps) = ps := by
  induction ps with
  | nil => rfl
  | cons x ps ih =>
    have h1 := h x (by simp)
    have h2 := ih fun y hy => h y (by simp [hy])
    simp only [iL, nL, List.map_cons] at h2 ⊢
    rw [h2]
    congr 1
    omega
theorem all_ge {ps : List Int} {lo hi : Int} (h : allB ps lo hi = true) : ∀ x ∈ ps, lo ≤ x := by
  intro x hx
  simp only [allB, decide_eq_true_eq] at h
  obtain ⟨j, hj, e⟩ := List.getElem_of_mem hx
  have := h j hj
  rw [List.getD_eq_getElem?_getD, List.getElem?_eq_getElem hj, Option.getD_some, e] at this
  simp [inB] at this
  exact this.1
theorem askP_iff {xs ps : List Int} {a : Int} (h : askP xs ps a = true) : ∃ (cs pl : List Nat) (n : Nat), xs = iL cs ∧ ps = iL pl ∧ Cn cs ∧ cs.length = pl.length ∧ a = n ∧ n ≤ 20000 := by
  simp only [askP, purB, Bool.and_eq_true, decide_eq_true_eq] at h
  obtain ⟨⟨⟨h1, h2⟩, h3⟩, h4⟩ := h
  obtain ⟨cs, n, rfl, hc, rfl, hn⟩ := askC_yes (xs := xs) (a := a) (by simp [askC, h1, h4])
  have e := iL_nL (all_ge h3)
  refine ⟨cs, nL ps, n, rfl, e.symm, hc, ?_, rfl, hn⟩
  have l1 := iL_len cs
  have l2 : (nL ps).length = ps.length := by simp [nL]
  omega

set_option maxHeartbeats 2000000 in
set_option maxRecDepth 100000 in
theorem cnPurse_any (v u : Value) (xs ps : List Int) (a : Int) (w : World) (h : Sv w v xs) (g : Sv w u ps) (hl : xs.length ≤ 1099511627776) (gl : ps.length ≤ 1099511627776) :
    Calls Try.prog 71 #[v, u, .int .i64 a] w fun e w' => e = .returned (.bool (askP xs ps a)) ∧ Below w.heap.size w w' := by
  have CA := Lib.hid (cnAsked_any v xs a w h hl)
  have AL := fun (w' : World) (hb : Below w.heap.size w w') => Lib.hid (l1All_any u ps 0 1000 w' (g.below hb (Nat.le_refl _)) gl)
  obtain ⟨p1, c1, rfl, hx⟩ := h
  obtain ⟨p2, c2, rfl, gx⟩ := g
  clear hx gx
  by_cases hq : askC xs a = true
  · rw [hq] at CA
    by_cases he : ps.length = xs.length
    · have R := Lib.hid (askP_yes' (a := a) hq he)
      have d : ((ps.length : Int) == (xs.length : Int)) = true := by rw [beq_iff_eq]; omega
      clear hq he
      go_enter Try.func71, Try.ntmps71
      go_wp2_with (first | (go_at_call 53; refine CA.out.mono ?_; rintro e w' ⟨rfl, hb⟩) | (go_at_call 89; refine (AL _ hb).out.mono ?_; rintro e w' ⟨rfl, rfl⟩))
      go_ret
      exact ⟨ret_bool R.out.symm, hb⟩
    · have R := Lib.hid (askP_len (a := a) he)
      have d : ((ps.length : Int) == (xs.length : Int)) = false := by rw [beq_eq_false_iff_ne]; omega
      clear hq he
      go_enter Try.func71, Try.ntmps71
      go_wp2_with (go_at_call 53; refine CA.out.mono ?_; rintro e w' ⟨rfl, hb⟩)
      go_ret
      exact ⟨ret_bool R.out.symm, hb⟩
  · have hq : askC xs a = false := by simpa using hq
    rw [hq] at CA
    have R := Lib.hid (askP_no (ps := ps) hq)
    go_enter Try.func71, Try.ntmps71
    go_wp2_with (go_at_call 53; refine CA.out.mono ?_; rintro e w' ⟨rfl, hb⟩)
    go_ret
    exact ⟨ret_bool R.out.symm, hb⟩

set_option maxHeartbeats 2000000 in
set_option maxRecDepth 100000 in
theorem isPurse_any (v u : Value) (xs ps : List Int) (w : World) (h : Sv w v xs) (g : Sv w u ps) (hl : xs.length ≤ 1099511627776) (gl : ps.length ≤ 1099511627776) :
    Calls Try.prog 73 #[v, u] w fun e w' => e = .returned (.bool (purB xs ps)) ∧ w = w' := by
  have CA := Lib.hid (areCoins_any v xs w h hl)
  obtain ⟨p1, c1, rfl, hx⟩ := h
  obtain ⟨p2, c2, rfl, gx⟩ := g
  clear hx
  by_cases hq : cnsB xs = true
  · rw [hq] at CA
    by_cases he : ps.length = xs.length
    · have R := Lib.hid (purB_yes hq he)
      have d : ((ps.length : Int) == (xs.length : Int)) = true := by rw [beq_iff_eq]; omega
      have d2 : ((ps.length : Int) != (xs.length : Int)) = false := by rw [bne_eq_false_iff_eq]; omega
      clear hq he
      go_enter Try.func73, Try.ntmps73
      go_wp2_with (go_at_call 20; refine CA.out.mono ?_; rintro e w' ⟨rfl, rfl⟩)
      go_loop [19] (fun i => ∃ k : Nat, k ≤ ps.length ∧ i = .int .i64 k ∧ AllTo ps 0 1000 k) (fun i => ps.length - (intOf i).toNat)
      case atStart => exact ⟨0, Nat.zero_le _, rfl, fun j hj => by omega⟩
      case round =>
        obtain ⟨k, hk, rfl, ha⟩ := hrel
        by_cases hlt : k < ps.length
        · obtain ⟨b, off, rfl, hbl, hc⟩ := gx (by omega)
          have hcell := hc k hlt
          obtain ⟨x, ex⟩ : ∃ x, ps.getD k 0 = x := ⟨_, rfl⟩
          rw [ex] at hcell
          have EX := Lib.hid ex
          clear hc gx ex
          by_cases h0 : x < 0
          · have hin : inB x 0 1000 = false := by simp [inB]; omega
            go_wp2
            go_ret
            exact ⟨ret_bool (by rw [R.out]; exact (allB_no hlt (by rw [EX.out]; exact hin)).symm), rfl⟩
          · by_cases h1 : 1000 < x
            · have hin : inB x 0 1000 = false := by simp [inB]; omega
              go_wp2
              go_ret
              exact ⟨ret_bool (by rw [R.out]; exact (allB_no hlt (by rw [EX.out]; exact hin)).symm), rfl⟩
            · have hin : inB x 0 1000 = true := by simp [inB]; omega
              go_wp2
              go_round
              case rel => exact ⟨k + 1, by omega, by go_num, ha.succ (by rw [EX.out]; exact hin)⟩
              case measure => simp [intOf]; omega
        · clear gx
          go_wp2
          go_ret
          have : k = ps.length := by omega
          subst this
          exact ⟨ret_bool (by rw [R.out]; exact (allB_yes ha).symm), rfl⟩
    · have R := Lib.hid (purB_len he)
      have d : ((ps.length : Int) == (xs.length : Int)) = false := by rw [beq_eq_false_iff_ne]; omega
      have d2 : ((ps.length : Int) != (xs.length : Int)) = true := by rw [bne_iff_ne]; omega
      clear hq he gx
      go_enter Try.func73, Try.ntmps73
      go_wp2_with (go_at_call 20; refine CA.out.mono ?_; rintro e w' ⟨rfl, rfl⟩)
      go_ret
      exact ⟨ret_bool R.out.symm, rfl⟩
  · have hq : cnsB xs = false := by simpa using hq
    rw [hq] at CA
    have R := Lib.hid (purB_no (ps := ps) hq)
    clear hq gx
    go_enter Try.func73, Try.ntmps73
    go_wp2_with (go_at_call 20; refine CA.out.mono ?_; rintro e w' ⟨rfl, rfl⟩)
    go_ret
    exact ⟨ret_bool R.out.symm, rfl⟩
end Go.Proofs.Ytdgadabfahmdmaa
