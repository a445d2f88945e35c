/-
  The gaps and the number of values of both sides, in the model and in the program, by contracts. Condition: slices of at most 2^40 numbers.
-/
import Derived.Test.YtcgifmoddojnmaaZis
import Derived.Deep.AppendLies
namespace Go.Proofs.Ytcgifmoddojnmaa
open Go.RowKit

def selTo (P : Nat → Bool) : Nat → List Int
  | 0 => []
  | k + 1 => selTo P k ++ (if P k = true then [(k : Int)] else [])
theorem selTo_yes {P : Nat → Bool} {k : Nat} (h : P k = true) : selTo P (k + 1) = selTo P k ++ [(k : Int)] := by rw [selTo, if_pos h]
theorem selTo_no {P : Nat → Bool} {k : Nat} (h : P k = false) : selTo P (k + 1) = selTo P k := by rw [selTo, if_neg (by simp [h]), List.append_nil]
theorem selTo_len (P : Nat → Bool) : ∀ k, (selTo P k).length ≤ k := by
  intro k
  induction k with
  | zero => simp [selTo]
  | succ k ih => simp only [selTo, List.length_append]; split <;> simp <;> omega
theorem selTo_mono (P : Nat → Bool) (k : Nat) : ∀ d, (selTo P k).length ≤ (selTo P (k + d)).length := by
  intro d
  induction d with
  | zero => exact Nat.le_refl _
  | succ d ih =>
    rw [show k + (d + 1) = (k + d) + 1 by omega]
    simp only [selTo, List.length_append]
    omega
def vS (xs : List Int) (j : Nat) : Bool := !(Sy xs j == 0)
def vG (xs : List Int) (j : Nat) : Bool := Sy xs j == 0
theorem vS_no {xs : List Int} {j : Nat} (h : Sy xs j = 0) : vS xs j = false := by simp [vS, h]
theorem vS_yes {xs : List Int} {j : Nat} (h : ¬ Sy xs j = 0) : vS xs j = true := by simpa [vS] using h
theorem vG_no {xs : List Int} {j : Nat} (h : ¬ Sy xs j = 0) : vG xs j = false := by simpa [vG] using h
theorem vG_yes {xs : List Int} {j : Nat} (h : Sy xs j = 0) : vG xs j = true := by simp [vG, h]
/-- An append of one number: the new slice lies where the old one lay or in a new block. -/
theorem wpList_append_apart {w : World} {ops : Array Oper} {rest : List Oper} {o : Oper} {a : Act} {Q : Exit → Act → World → Prop} (hgd : o.guard = none) (s x : Operand)
    (ho : o.op = .call { callee := .builtin .append, args := #[s, x], argTypes := #[22, 22] })
    (B : Nat) (v : Value) (ys : List Int) (hs : a.eval s = v) (hown : Ow w B v ys) (b : Nat) (n : Int) (hx : a.eval x = .slice (some ⟨b, 0, none⟩) 1 1) (hc : w.cell? ⟨b, 0, none⟩ = some (.int .i64 n)) (hlen : ys.length ≤ 1099511627776) (hB : B ≤ w.heap.size)
    (g0 : Nat) (ha : Apart v (some g0)) (hg0 : g0 < w.heap.size)
    (h : ∀ v' w', Ow w' B v' (ys ++ [n]) → w.grownBy w' v.ownBlock → Apart v' (some g0) → wpList Try.prog ops Q rest (a.put o.dst v') w') : wpList Try.prog ops Q (o :: rest) a w := by
  obtain ⟨i0, hi, hz0, hz1, hz2⟩ := info_parts Try.infoI
  have hc' : ∀ j, j < [n].length → w.cell? ⟨b, 0 + j, none⟩ = some (.int .i64 ([n].getD j 0)) := fun j hj => by
    obtain rfl : j = 0 := by simpa using hj
    exact hc
  refine wpList_plain hgd fun K hK => ?_
  refine wp_append_lies w s x 22 ho B 3 i0 (.int .i64 0) 1 8 Try.underlying22 hi hz0 hz1 hz2 rfl (by decide) v ys.length _ hs hown ⟨b, 0, none⟩ 1 1 ([n].map (Value.int .i64)) hx (by simp) (src_cells hc') ?_ (by omega) (by unfold maxLen; omega) (by omega) hB w.heap.size rfl ?_
  · intro u hu; simp at hu; subst hu; rfl
  · intro g cap w' h1 h2 h3 _
    refine hK _ _ (h _ w' (ow_app (xs := [n]) h1) h2 ?_)
    right
    show some g ≠ some g0
    intro e
    simp only [Option.some.injEq] at e
    rcases h3 with h3 | h3
    · rcases ha with h4 | h4
      · rw [h4] at h3; cases h3
      · exact h4 (by rw [h3, e])
    · omega
theorem Tb.kept {w w' : World} {g n : Nat} {A B C : Nat → Int} {row : Option Nat} (h : Tb w g n A B C) (hg : w.grownBy w' row) (hne : some g ≠ row) : Tb w' g n A B C := by
  obtain ⟨c, hc, r⟩ := h
  exact ⟨c, (hg.block g (Array.getElem?_eq_some_iff.1 hc).1 hne).trans hc, r⟩
theorem apart_ne {v : Value} {g : Nat} (h : Apart v (some g)) : some g ≠ v.ownBlock := by
  intro e
  rcases h with h | h
  · rw [h] at e; cases e
  · exact h e.symm

noncomputable def gpB (xs : List Int) : Bool := sideB xs && decide ((selTo (vG xs) (top xs + 1)).length ≤ 1000)
noncomputable def gpR (xs : List Int) : List Int := if gpB xs = true then selTo (vG xs) (top xs + 1) else []
theorem gp_no {xs : List Int} (h : sideB xs = false) : gpB xs = false ∧ gpR xs = [] := by
  have e : gpB xs = false := by simp [gpB, h]
  exact ⟨e, by simp [gpR, e]⟩
theorem gp_many {xs : List Int} (h : 1000 < (selTo (vG xs) (top xs + 1)).length) : gpB xs = false ∧ gpR xs = [] := by
  have e : gpB xs = false := by simp only [gpB, Bool.and_eq_false_iff, decide_eq_false_iff_not]; right; omega
  exact ⟨e, by simp [gpR, e]⟩
theorem gp_yes {xs : List Int} (hg : sideB xs = true) (h : (selTo (vG xs) (top xs + 1)).length ≤ 1000) : gpB xs = true ∧ gpR xs = selTo (vG xs) (top xs + 1) := by
  have e : gpB xs = true := by simp [gpB, hg, h]
  exact ⟨e, by simp [gpR, e]⟩
theorem gpR_len (xs : List Int) : (gpR xs).length ≤ 1099511627776 := by
  unfold gpR
  by_cases h : gpB xs = true
  · rw [if_pos h]
    simp only [gpB, Bool.and_eq_true, decide_eq_true_eq] at h
    omega
  · rw [if_neg h]; simp

noncomputable def cbR (xs : List Int) : Int := if sideB xs = true then ((selTo (vS xs) (top xs + 1)).length : Int) else 0
theorem cbR_yes {xs : List Int} (h : sideB xs = true) : cbR xs = ((selTo (vS xs) (top xs + 1)).length : Int) := by simp [cbR, h]
theorem cbR_no {xs : List Int} (h : sideB xs = false) : cbR xs = 0 := by simp [cbR, h]

set_option maxHeartbeats 4000000 in
set_option maxRecDepth 100000 in
theorem countMade_any (g n : Nat) (P : Nat → Bool) (A B C : Nat → Int) (w : World) (hT : Tb w g n A B C) (hz : Whole A B C) (hP : ∀ j, P j = !(A j == 0)) (hn : n ≤ 300000) :
    Calls Try.prog 80 #[.slice (some ⟨g, 0, none⟩) n n] w fun e w' => e = .returned (.int .i64 ((selTo P n).length : Int)) ∧ Below w.heap.size w w' := by
  have HP := Lib.hid hP
  have HZ := Lib.hid hz
  clear hP hz
  go_enter Try.func80, Try.ntmps80
  go_wp2
  go_loopw [3, 8] (fun a i wr => ∃ k : Nat, k ≤ n ∧ i = .int .i64 k ∧ a = .int .i64 ((selTo P k).length : Int) ∧ Below w.heap.size w wr) (fun _ i _ => n - (intOf i).toNat)
  case atStart => exact ⟨0, by omega, rfl, rfl, Below.refl _ _⟩
  case round =>
    obtain ⟨k, hk, rfl, rfl, hb⟩ := hrel
    have hz := hb.size
    by_cases hlt : k < n
    · obtain ⟨c1, c2, c3, -, -, -⟩ := (hT.below hb (Nat.le_refl _)).cells hlt
      have hsl := selTo_len P k
      by_cases hzero : A k = 0
      · have S := Lib.hid (selTo_no (P := P) (k := k) (by rw [HP.out, hzero]; rfl))
        rw [(HZ.out k hzero).1] at c2
        rw [(HZ.out k hzero).2] at c3
        rw [hzero] at c1
        clear hzero
        go_wp2
        go_roundw
        case rel => exact ⟨k + 1, by omega, by go_num, by rw [S.out], hb.alloc hz _⟩
        case measure => simp only [intOf]; omega
      · have S := Lib.hid (selTo_yes (P := P) (k := k) (by rw [HP.out]; simpa using hzero))
        obtain ⟨a, ea⟩ : ∃ a, A k = a := ⟨_, rfl⟩
        rw [ea] at c1 hzero
        have d : (a == 0) = false := by simpa using hzero
        clear hzero ea
        go_wp2
        go_roundw
        case rel => exact ⟨k + 1, by omega, by go_num, by rw [S.out, List.length_append]; go_num, hb.alloc hz _⟩
        case measure => simp only [intOf]; omega
    · have hkT : k = n := by omega
      subst hkT
      go_wp2
      go_ret
      exact ⟨rfl, hb⟩

theorem ret_lbx {u v : Value} {c d : Bool} (h : u = v) (g : c = d) : Ending.returned (.tuple #[u, .bool c]) = .returned (.tuple #[v, .bool d]) := by rw [h, g]
/-- What gapsIn gives: the numbers without a way, if they are at most 1000. -/
def giB (P : Nat → Bool) (n : Nat) : Bool := decide ((selTo P n).length ≤ 1000)
def giR (P : Nat → Bool) (n : Nat) : List Int := if giB P n = true then selTo P n else []
theorem gi_many {P : Nat → Bool} {n : Nat} (h : 1000 < (selTo P n).length) : giB P n = false ∧ giR P n = [] := by
  have e : giB P n = false := by simp only [giB, decide_eq_false_iff_not]; omega
  exact ⟨e, by simp [giR, e]⟩
theorem gi_yes {P : Nat → Bool} {n : Nat} (h : (selTo P n).length ≤ 1000) : giB P n = true ∧ giR P n = selTo P n := by
  have e : giB P n = true := by simp [giB, h]
  exact ⟨e, by simp [giR, e]⟩

set_option maxHeartbeats 8000000 in
set_option maxRecDepth 100000 in
theorem gapsIn_any (g n : Nat) (P : Nat → Bool) (A B C : Nat → Int) (w : World) (hT : Tb w g n A B C) (hzr : Whole A B C) (hP : ∀ j, P j = (A j == 0)) (hn : n ≤ 300000) :
    Calls Try.prog 79 #[.slice (some ⟨g, 0, none⟩) n n] w fun e w' => ∃ u, e = .returned (.tuple #[u, .bool (giB P n)]) ∧ Ow w' w.heap.size u (giR P n) ∧ Below w.heap.size w w' := by
  have HP := Lib.hid hP
  have HZ := Lib.hid hzr
  have hgl0 := hT.lt
  have o1 := ow_empty w
  have hap : Apart (.slice (some ⟨w.heap.size, 0, none⟩) 0 0) (some g) := by
    right
    show some w.heap.size ≠ some g
    intro e
    simp only [Option.some.injEq] at e
    omega
  have b2 : Below w.heap.size w (w.alloc (.cells #[] 3)) := (Below.refl _ _).alloc (Nat.le_refl _) _
  have htb := hT.below b2 (Nat.le_refl _)
  clear hP hzr hT
  go_enter Try.func79, Try.ntmps79
  go_wp2
  go_loopw [4, 10] (fun a i wr => ∃ k : Nat, k ≤ n ∧ i = .int .i64 k ∧ (selTo P k).length ≤ 1000 ∧ Ow wr w.heap.size a (selTo P k) ∧ Apart a (some g) ∧ Tb wr g n A B C ∧ Below w.heap.size w wr) (fun _ i _ => n - (intOf i).toNat)
  case atStart => exact ⟨0, by omega, rfl, by simp [selTo], o1, hap, htb, b2⟩
  case round =>
    clear htb b2 o1 hap
    obtain ⟨k, hk, rfl, hlen, ho, hap, htb, hb⟩ := hrel
    have hz0 := hb.size
    by_cases hlt : k < n
    · obtain ⟨c1, c2, c3, -, -, -⟩ := htb.cells hlt
      have hgl := htb.lt
      by_cases hzero : A k = 0
      · have S := Lib.hid (selTo_yes (P := P) (k := k) (by rw [HP.out, hzero]; rfl))
        rw [(HZ.out k hzero).1] at c2
        rw [(HZ.out k hzero).2] at c3
        rw [hzero] at c1
        obtain ⟨pv, cv, rfl, -⟩ := ho.sv
        clear hzero
        by_cases hfull : (selTo P k).length = 1000
        · have d : (((selTo P k).length : Int) == 1000) = true := by simp; omega
          have hmany : 1000 < (selTo P n).length := by
            have h1 := selTo_mono P (k + 1) (n - (k + 1))
            rw [show k + 1 + (n - (k + 1)) = n by omega, S.out, List.length_append] at h1
            simp only [List.length_cons, List.length_nil] at h1
            omega
          have R := Lib.hid (gi_many hmany)
          clear hfull hmany
          go_wp2
          go_ret2
          exact ⟨_, ret_lbx rfl R.out.1.symm, by rw [R.out.2]; exact ow_nil _ _, hb.alloc hz0 _⟩
        · have d : (((selTo P k).length : Int) == 1000) = false := by simp; omega
          have hl2 : (selTo P k).length < 1000 := by omega
          clear hfull
          go_wp2_with (at_builtin; refine wpList_append_apart rfl _ _ rfl w.heap.size _ (selTo P k) rfl ((ho.alloc _).alloc _) _ (k : Int) rfl (by simp only [World.cell?, blk_b]; rfl) (by omega) (by simp; omega) g hap (by simp; omega) ?_; intro v' w3 h3 g3 a3)
          have b3 := ((hb.alloc hz0 _).alloc (by simp; omega) _).trans ((((ho.alloc _).alloc _).grown (by simp; omega) g3))
          have t3 := (((htb.kept (World.grownBy_alloc _ _ none) (by simp)).kept (World.grownBy_alloc _ _ none) (by simp)).kept g3 (apart_ne hap))
          clear ho g3 c1 c2 c3 hb htb hap
          go_roundw
          case rel => exact ⟨k + 1, by omega, by go_num, by rw [S.out, List.length_append]; simp only [List.length_cons, List.length_nil]; omega, by rw [S.out]; exact h3, a3, t3, b3⟩
          case measure => simp only [intOf]; omega
      · have S := Lib.hid (selTo_no (P := P) (k := k) (by rw [HP.out]; simpa using hzero))
        obtain ⟨a, ea⟩ : ∃ a, A k = a := ⟨_, rfl⟩
        rw [ea] at c1 hzero
        have d : (a == 0) = false := by simpa using hzero
        clear hzero ea
        go_wp2
        go_roundw
        case rel => exact ⟨k + 1, by omega, by go_num, by rw [S.out]; exact hlen, by rw [S.out]; exact ho.alloc _, hap, htb.kept (World.grownBy_alloc _ _ none) (by simp), hb.alloc hz0 _⟩
        case measure => simp only [intOf]; omega
    · have hkT : k = n := by omega
      subst hkT
      have R := Lib.hid (gi_yes hlen)
      go_wp2
      go_ret2
      exact ⟨_, ret_lbx rfl R.out.1.symm, by rw [R.out.2]; exact ho, hb⟩

theorem gp_gi {xs : List Int} (h : sideB xs = true) : gpB xs = giB (vG xs) (top xs + 1) ∧ gpR xs = giR (vG xs) (top xs + 1) := by
  have e : gpB xs = giB (vG xs) (top xs + 1) := by simp [gpB, giB, h]
  exact ⟨e, by simp [gpR, giR, e]⟩

set_option maxHeartbeats 2000000 in
theorem implGapsBoth_any (v : Value) (xs : List Int) (w : World) (h : Sp w v xs) (hl : xs.length ≤ 1099511627776) :
    Calls Try.prog 36 #[v] w fun e w' => ∃ u, e = .returned (.tuple #[u, .bool (gpB xs)]) ∧ Ow w' w.heap.size u (gpR xs) ∧ Below w.heap.size w w' := by
  by_cases hg : sideB xs = true
  · have hgood := (sideB_iff.1 hg).1
    have htop := hgood.top
    have R := Lib.hid (gp_gi hg)
    go_enter Try.func36, Try.ntmps36
    go_wp2_with fail
    refine (areSide_any _ _ _ h.sv hl).mono ?_
    rintro e w1 ⟨rfl, b1⟩
    go_wp2_with fail
    refine (tableBoth_any _ _ _ (h.below b1 (Nat.le_refl _)) hgood).mono ?_
    rintro e w2 ⟨g, rfl, hgs, htb, b2⟩
    have b2 := nxt b1 b2
    have z2 := b2.size
    go_wp2_with fail
    refine (gapsIn_any g (top xs + 1) (vG xs) (fun j => Sy xs j) (fun j => Fs xs j) (fun j => Gs 0 xs j) _ htb (wholeB xs) (fun j => rfl) (by omega)).mono ?_
    rintro e w3 ⟨u, rfl, o3, b3⟩
    go_wp2_with fail
    go_ret2
    exact ⟨_, ret_lbx rfl R.out.1.symm, by rw [R.out.2]; exact o3.mono z2, nxt b2 b3⟩
  · have hg : sideB xs = false := by simpa using hg
    have R := Lib.hid (gp_no hg)
    go_enter Try.func36, Try.ntmps36
    go_wp2_with fail
    refine (areSide_any _ _ _ h.sv hl).mono ?_
    rintro e w1 ⟨rfl, b1⟩
    go_wp2_with fail
    go_ret2
    exact ⟨_, ret_lbx rfl R.out.1.symm, by rw [R.out.2]; exact ow_nil _ _, b1⟩

set_option maxHeartbeats 2000000 in
theorem implCountBoth_any (v : Value) (xs : List Int) (w : World) (h : Sp w v xs) (hl : xs.length ≤ 1099511627776) :
    Calls Try.prog 40 #[v] w fun e w' => e = .returned (.tuple #[.int .i64 (cbR xs), .bool (sideB xs)]) ∧ Below w.heap.size w w' := by
  by_cases hg : sideB xs = true
  · have hgood := (sideB_iff.1 hg).1
    have htop := hgood.top
    have R := Lib.hid (cbR_yes hg)
    have HG := Lib.hid hg
    go_enter Try.func40, Try.ntmps40
    go_wp2_with fail
    refine (areSide_any _ _ _ h.sv hl).mono ?_
    rintro e w1 ⟨rfl, b1⟩
    go_wp2_with fail
    refine (tableBoth_any _ _ _ (h.below b1 (Nat.le_refl _)) hgood).mono ?_
    rintro e w2 ⟨g, rfl, hgs, htb, b2⟩
    have b2 := nxt b1 b2
    go_wp2_with fail
    refine (countMade_any g (top xs + 1) (vS xs) (fun j => Sy xs j) (fun j => Fs xs j) (fun j => Gs 0 xs j) _ htb (wholeB xs) (fun j => rfl) (by omega)).mono ?_
    rintro e w3 ⟨rfl, b3⟩
    go_wp2_with fail
    go_ret2
    exact ⟨ret_ib R.out.symm HG.out.symm, nxt b2 b3⟩
  · have hg : sideB xs = false := by simpa using hg
    have R := Lib.hid (cbR_no hg)
    have HG := Lib.hid hg
    go_enter Try.func40, Try.ntmps40
    go_wp2_with fail
    refine (areSide_any _ _ _ h.sv hl).mono ?_
    rintro e w1 ⟨rfl, b1⟩
    go_wp2_with fail
    go_ret2
    exact ⟨ret_ib R.out.symm HG.out.symm, b1⟩

end Go.Proofs.Ytcgifmoddojnmaa
