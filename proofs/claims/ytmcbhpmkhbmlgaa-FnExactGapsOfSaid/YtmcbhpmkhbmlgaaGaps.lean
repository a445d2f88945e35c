/-
  The law on GapsOf, walked: the model and the program answer alike. No condition but a length that fits int.
-/
import Derived.Test.YtmcbhpmkhbmlgaaCount
import Derived.Deep.AppendLies
namespace Go.Proofs.Ytmcbhpmkhbmlgaa
open Go.RowKit

/-- An append of one number: the new slice lies where the old one lay or in a new block. -/
theorem wpList_append_apart {w : World} {ops : Array Oper} {rest : List Oper} {o : Oper} {a : Act} {Q : Exit → Act → World → Prop} (hgd : o.guard = none) (s x : Operand)
    (ho : o.op = .call { callee := .builtin .append, args := #[s, x], argTypes := #[22, 22] })
    (B : Nat) (v : Value) (ys : List Int) (hs : a.eval s = v) (hown : Ow w B v ys) (b : Nat) (n : Int) (hx : a.eval x = .slice (some ⟨b, 0, none⟩) 1 1) (hc : w.cell? ⟨b, 0, none⟩ = some (.int .i64 n)) (hlen : ys.length ≤ 1099511627776) (hB : B ≤ w.heap.size)
    (g0 : Nat) (ha : Apart v (some g0)) (hg0 : g0 < w.heap.size)
    (h : ∀ v' w', Ow w' B v' (ys ++ [n]) → w.grownBy w' v.ownBlock → Apart v' (some g0) → wpList Try.prog ops Q rest (a.put o.dst v') w') : wpList Try.prog ops Q (o :: rest) a w := by
  obtain ⟨i0, hi, hz0, hz1, hz2⟩ := info_parts Try.infoI
  have hc' : ∀ j, j < [n].length → w.cell? ⟨b, 0 + j, none⟩ = some (.int .i64 ([n].getD j 0)) := fun j hj => by
    obtain rfl : j = 0 := by simpa using hj
    exact hc
  refine wpList_plain hgd fun K hK => ?_
  refine wp_append_lies w s x 22 ho B 3 i0 (.int .i64 0) 1 8 Try.underlying22 hi hz0 hz1 hz2 rfl (by decide) v ys.length _ hs hown ⟨b, 0, none⟩ 1 1 ([n].map (Value.int .i64)) hx (by simp) (src_cells hc') ?_ (by omega) (by unfold maxLen; omega) (by omega) hB w.heap.size rfl ?_
  · intro u hu; simp at hu; subst hu; rfl
  · intro g cap w' h1 h2 h3 _
    refine hK _ _ (h _ w' (ow_app (xs := [n]) h1) h2 ?_)
    right
    show some g ≠ some g0
    intro e
    simp only [Option.some.injEq] at e
    rcases h3 with h3 | h3
    · rcases ha with h4 | h4
      · rw [h4] at h3; cases h3
      · exact h4 (by rw [h3, e])
    · omega
theorem Tb.kept {w w' : World} {g n : Nat} {A B C : Nat → Int} {row : Option Nat} (h : Tb w g n A B C) (hg : w.grownBy w' row) (hne : some g ≠ row) : Tb w' g n A B C := by
  obtain ⟨c, hc, r⟩ := h
  exact ⟨c, (hg.block g (Array.getElem?_eq_some_iff.1 hc).1 hne).trans hc, r⟩
theorem apart_ne {v : Value} {g : Nat} (h : Apart v (some g)) : some g ≠ v.ownBlock := by
  intro e
  rcases h with h | h
  · rw [h] at e; cases e
  · exact h e.symm

noncomputable def gapsB (xs : List Int) : Bool := goodB xs && decide ((selTo (isG xs) (top xs + 1)).length ≤ 1000)
noncomputable def gapsR (xs : List Int) : List Int := if gapsB xs = true then selTo (isG xs) (top xs + 1) else []
theorem gaps_no {xs : List Int} (h : goodB xs = false) : gapsB xs = false ∧ gapsR xs = [] := by
  have e : gapsB xs = false := by simp [gapsB, h]
  exact ⟨e, by simp [gapsR, e]⟩
theorem gaps_many {xs : List Int} (h : 1000 < (selTo (isG xs) (top xs + 1)).length) : gapsB xs = false ∧ gapsR xs = [] := by
  have e : gapsB xs = false := by simp only [gapsB, Bool.and_eq_false_iff, decide_eq_false_iff_not]; right; omega
  exact ⟨e, by simp [gapsR, e]⟩
theorem gaps_yes {xs : List Int} (hg : goodB xs = true) (h : (selTo (isG xs) (top xs + 1)).length ≤ 1000) : gapsB xs = true ∧ gapsR xs = selTo (isG xs) (top xs + 1) := by
  have e : gapsB xs = true := by simp [gapsB, hg, h]
  exact ⟨e, by simp [gapsR, e]⟩
theorem gapsR_len (xs : List Int) : (gapsR xs).length ≤ 1099511627776 := by
  unfold gapsR
  by_cases h : gapsB xs = true
  · rw [if_pos h]
    simp only [gapsB, Bool.and_eq_true, decide_eq_true_eq] at h
    omega
  · rw [if_neg h]; simp

set_option maxHeartbeats 4000000 in
theorem specGapsOf_any (v : Value) (xs : List Int) (w : World) (hsp : Sp w v xs) (hl : xs.length ≤ 1099511627776) :
    Calls Try.prog 14 #[v] w fun e w' => ∃ u, e = .returned (.tuple #[u, .bool (gapsB xs)]) ∧ Ow w' w.heap.size u (gapsR xs) ∧ Below w.heap.size w w' := by
  have h := hsp.sv
  by_cases hg : goodB xs = true
  · have hgood := goodB_iff.1 hg
    obtain ⟨htop, htop2⟩ := hgood.top
    have HL := Lib.hid (waysList_len xs)
    clear htop
    go_enter Try.func14, Try.ntmps14
    go_wp2_with fail
    refine (piGood_any _ _ _ h hl).mono ?_
    rintro e w0 ⟨rfl, b0⟩
    go_wp2_with fail
    refine (piWays_any _ _ _ (h.below b0 (Nat.le_refl _)) hgood).mono ?_
    rintro e w1 ⟨u, rfl, o1, a1, b1⟩
    have b1 := nxt b0 b1
    obtain ⟨p, cap, rfl, hx⟩ := o1.sv
    rw [HL.out] at hx ⊢
    obtain ⟨T, eT⟩ : ∃ T, T = top xs := ⟨_, rfl⟩
    have HT := Lib.hid eT
    have HG := Lib.hid hg
    rw [← eT] at hx htop2 ⊢
    obtain ⟨b, off, rfl, hbl, hc⟩ := hx (by omega)
    have HC := Lib.hid hc
    clear hc hx a1 o1 eT b0 hg
    have z1 := b1.size
    go_wp2
    go_loopw [4, 13] (fun a i wr => ∃ k : Nat, k ≤ T + 1 ∧ i = .int .i64 k ∧ Ow wr w1.heap.size a (selTo (isG xs) k) ∧ Below w1.heap.size w1 wr) (fun _ i _ => T + 1 - (intOf i).toNat)
    case atStart => exact ⟨0, by omega, rfl, World.ownsRow_nil _ _ _ _, Below.refl _ _⟩
    case round =>
      obtain ⟨k, hk, rfl, ho, hb⟩ := hrel
      have hz := hb.size
      by_cases hlt : k < T + 1
      · have hcell := (hb.cell (p := ⟨b, off + k, none⟩) hbl).trans (HC.out k hlt)
        rw [waysList_at xs k (by rw [← HT.out]; exact hlt)] at hcell
        have hsl := selTo_len (isG xs) k
        by_cases hzero : Wy xs k = 0
        · have S := Lib.hid (selTo_yes (isG_yes hzero))
          rw [hzero] at hcell
          clear hzero
          go_wp2_with (at_builtin; refine wpList_append_src rfl _ _ rfl w1.heap.size _ (selTo (isG xs) k) rfl (ho.alloc _) _ [(k : Int)] rfl (src_one _ _) (by simp only [List.length_cons, List.length_nil]; omega) (by simp; omega) ?_; intro v' w3 h3 g3)
          have b3 := (hb.alloc hz _).trans ((ho.alloc _).grown (by simp; omega) g3)
          clear ho g3 hcell hb
          go_roundw
          case rel => exact ⟨k + 1, by omega, by go_num, by rw [S.out]; exact h3, b3⟩
          case measure => simp only [intOf]; omega
        · have S := Lib.hid (selTo_no (isG_no hzero))
          obtain ⟨a, ea⟩ : ∃ a, Wy xs k = a := ⟨_, rfl⟩
          rw [ea] at hcell hzero
          have d : (a == 0) = false := by simpa using hzero
          clear hzero ea
          go_wp2
          go_roundw
          case rel => exact ⟨k + 1, by omega, by go_num, by rw [S.out]; exact ho, hb⟩
          case measure => simp only [intOf]; omega
      · have hkT : k = T + 1 := by omega
        subst hkT
        obtain ⟨pv, cv, rfl, -⟩ := ho.sv
        have hsl := selTo_len (isG xs) (T + 1)
        by_cases hm : (selTo (isG xs) (T + 1)).length ≤ 1000
        · have R := Lib.hid (gaps_yes HG.out (by rw [← HT.out]; exact hm))
          go_wp2
          go_ret2
          exact ⟨_, ret_lb rfl R.out.1.symm, by rw [R.out.2, ← HT.out]; exact ho.mono z1, nxt b1 hb⟩
        · have R := Lib.hid (gaps_many (xs := xs) (by rw [← HT.out]; omega))
          go_wp2
          go_ret2
          exact ⟨_, ret_lb rfl R.out.1.symm, by rw [R.out.2]; exact ow_nil _ _, nxt b1 hb⟩
  · have hg : goodB xs = false := by simpa using hg
    have R := Lib.hid (gaps_no hg)
    go_enter Try.func14, Try.ntmps14
    go_wp2_with fail
    refine (piGood_any _ _ _ h hl).mono ?_
    rintro e w1 ⟨rfl, b1⟩
    go_wp2_with fail
    go_ret2
    exact ⟨_, ret_lb rfl R.out.1.symm, by rw [R.out.2]; exact ow_nil _ _, b1⟩

/-- What gapsIn gives: the numbers without a way, if they are at most 1000. -/
def giB (P : Nat → Bool) (n : Nat) : Bool := decide ((selTo P n).length ≤ 1000)
def giR (P : Nat → Bool) (n : Nat) : List Int := if giB P n = true then selTo P n else []
theorem gi_many {P : Nat → Bool} {n : Nat} (h : 1000 < (selTo P n).length) : giB P n = false ∧ giR P n = [] := by
  have e : giB P n = false := by simp only [giB, decide_eq_false_iff_not]; omega
  exact ⟨e, by simp [giR, e]⟩
theorem gi_yes {P : Nat → Bool} {n : Nat} (h : (selTo P n).length ≤ 1000) : giB P n = true ∧ giR P n = selTo P n := by
  have e : giB P n = true := by simp [giB, h]
  exact ⟨e, by simp [giR, e]⟩

theorem gaps_gi {xs : List Int} (h : goodB xs = true) : gapsB xs = giB (isG xs) (top xs + 1) ∧ gapsR xs = giR (isG xs) (top xs + 1) := by
  have e : gapsB xs = giB (isG xs) (top xs + 1) := by simp [gapsB, giB, h]
  exact ⟨e, by simp [gapsR, giR, e]⟩

set_option maxHeartbeats 8000000 in
set_option maxRecDepth 100000 in
theorem gapsIn_any (g n : Nat) (P : Nat → Bool) (A B C : Nat → Int) (w : World) (hT : Tb w g n A B C) (hzr : Whole A B C) (hP : ∀ j, P j = (A j == 0)) (hn : n ≤ 300000) :
    Calls Try.prog 38 #[.slice (some ⟨g, 0, none⟩) n n] w fun e w' => ∃ u, e = .returned (.tuple #[u, .bool (giB P n)]) ∧ Ow w' w.heap.size u (giR P n) ∧ Below w.heap.size w w' := by
  have HP := Lib.hid hP
  have HZ := Lib.hid hzr
  have hgl0 := hT.lt
  have o1 := ow_empty w
  have hap : Apart (.slice (some ⟨w.heap.size, 0, none⟩) 0 0) (some g) := by
    right
    show some w.heap.size ≠ some g
    intro e
    simp only [Option.some.injEq] at e
    omega
  have b2 : Below w.heap.size w (w.alloc (.cells #[] 3)) := (Below.refl _ _).alloc (Nat.le_refl _) _
  have htb := hT.below b2 (Nat.le_refl _)
  clear hP hzr hT
  go_enter Try.func38, Try.ntmps38
  go_wp2
  go_loopw [4, 10] (fun a i wr => ∃ k : Nat, k ≤ n ∧ i = .int .i64 k ∧ (selTo P k).length ≤ 1000 ∧ Ow wr w.heap.size a (selTo P k) ∧ Apart a (some g) ∧ Tb wr g n A B C ∧ Below w.heap.size w wr) (fun _ i _ => n - (intOf i).toNat)
  case atStart => exact ⟨0, by omega, rfl, by simp [selTo], o1, hap, htb, b2⟩
  case round =>
    clear htb b2 o1 hap
    obtain ⟨k, hk, rfl, hlen, ho, hap, htb, hb⟩ := hrel
    have hz0 := hb.size
    by_cases hlt : k < n
    · obtain ⟨c1, c2, c3, -, -, -⟩ := htb.cells hlt
      have hgl := htb.lt
      by_cases hzero : A k = 0
      · have S := Lib.hid (selTo_yes (P := P) (k := k) (by rw [HP.out, hzero]; rfl))
        rw [(HZ.out k hzero).1] at c2
        rw [(HZ.out k hzero).2] at c3
        rw [hzero] at c1
        obtain ⟨pv, cv, rfl, -⟩ := ho.sv
        clear hzero
        by_cases hfull : (selTo P k).length = 1000
        · have d : (((selTo P k).length : Int) == 1000) = true := by simp; omega
          have hmany : 1000 < (selTo P n).length := by
            have h1 := selTo_mono P (k + 1) (n - (k + 1))
            rw [show k + 1 + (n - (k + 1)) = n by omega, S.out, List.length_append] at h1
            simp only [List.length_cons, List.length_nil] at h1
            omega
          have R := Lib.hid (gi_many hmany)
          clear hfull hmany
          go_wp2
          go_ret2
          exact ⟨_, ret_lb rfl R.out.1.symm, by rw [R.out.2]; exact ow_nil _ _, hb.alloc hz0 _⟩
        · have d : (((selTo P k).length : Int) == 1000) = false := by simp; omega
          have hl2 : (selTo P k).length < 1000 := by omega
          clear hfull
          go_wp2_with (at_builtin; refine wpList_append_apart rfl _ _ rfl w.heap.size _ (selTo P k) rfl ((ho.alloc _).alloc _) _ (k : Int) rfl (by simp only [World.cell?, blk_b]; rfl) (by omega) (by simp; omega) g hap (by simp; omega) ?_; intro v' w3 h3 g3 a3)
          have b3 := ((hb.alloc hz0 _).alloc (by simp; omega) _).trans ((((ho.alloc _).alloc _).grown (by simp; omega) g3))
          have t3 := (((htb.kept (World.grownBy_alloc _ _ none) (by simp)).kept (World.grownBy_alloc _ _ none) (by simp)).kept g3 (apart_ne hap))
          clear ho g3 c1 c2 c3 hb htb hap
          go_roundw
          case rel => exact ⟨k + 1, by omega, by go_num, by rw [S.out, List.length_append]; simp only [List.length_cons, List.length_nil]; omega, by rw [S.out]; exact h3, a3, t3, b3⟩
          case measure => simp only [intOf]; omega
      · have S := Lib.hid (selTo_no (P := P) (k := k) (by rw [HP.out]; simpa using hzero))
        obtain ⟨a, ea⟩ : ∃ a, A k = a := ⟨_, rfl⟩
        rw [ea] at c1 hzero
        have d : (a == 0) = false := by simpa using hzero
        clear hzero ea
        go_wp2
        go_roundw
        case rel => exact ⟨k + 1, by omega, by go_num, by rw [S.out]; exact hlen, by rw [S.out]; exact ho.alloc _, hap, htb.kept (World.grownBy_alloc _ _ none) (by simp), hb.alloc hz0 _⟩
        case measure => simp only [intOf]; omega
    · have hkT : k = n := by omega
      subst hkT
      have R := Lib.hid (gi_yes hlen)
      go_wp2
      go_ret2
      exact ⟨_, ret_lb rfl R.out.1.symm, by rw [R.out.2]; exact ho, hb⟩


set_option maxHeartbeats 2000000 in
theorem implGapsOf_any (v : Value) (xs : List Int) (w : World) (hsp : Sp w v xs) (hl : xs.length ≤ 1099511627776) :
    Calls Try.prog 15 #[v] w fun e w' => ∃ u, e = .returned (.tuple #[u, .bool (gapsB xs)]) ∧ Ow w' w.heap.size u (gapsR xs) ∧ Below w.heap.size w w' := by
  have h := hsp.sv
  by_cases hg : goodB xs = true
  · have hgood := goodB_iff.1 hg
    obtain ⟨htop, htop2⟩ := hgood.top
    have R := Lib.hid (gaps_gi hg)
    go_enter Try.func15, Try.ntmps15
    go_wp2_with fail
    refine (arePieces_any _ _ _ h hl).mono ?_
    rintro e w1 ⟨rfl, b1⟩
    go_wp2_with fail
    refine (tableOf_any _ _ _ (h.below b1 (Nat.le_refl _)) hgood).mono ?_
    rintro e w2 ⟨g, rfl, hgs, htb, b2⟩
    have b2 := nxt b1 b2
    have z2 := b2.size
    go_wp2_with fail
    refine (gapsIn_any g (top xs + 1) (isG xs) (fun j => Wy xs j) (fun j => Fw xs j) (fun j => Sg 0 xs j) _ htb (wholeW xs) (fun j => rfl) (by omega)).mono ?_
    rintro e w3 ⟨u, rfl, o3, b3⟩
    go_wp2_with fail
    go_ret2
    exact ⟨_, ret_lb rfl R.out.1.symm, by rw [R.out.2]; exact o3.mono z2, nxt b2 b3⟩
  · have hg : goodB xs = false := by simpa using hg
    have R := Lib.hid (gaps_no hg)
    go_enter Try.func15, Try.ntmps15
    go_wp2_with fail
    refine (arePieces_any _ _ _ h hl).mono ?_
    rintro e w1 ⟨rfl, b1⟩
    go_wp2_with fail
    go_ret2
    exact ⟨_, ret_lb rfl R.out.1.symm, by rw [R.out.2]; exact ow_nil _ _, b1⟩

set_option maxHeartbeats 4000000 in
theorem lawGapsOf (v : Value) (xs : List Int) (w : World) (h : Sv w v xs) (hm : xs.length ≤ 9223372036854775807) :
    Calls Try.prog 4 #[v] w fun e w' => e = .returned (.bool true) ∧ Below w.heap.size w w' := by
  have hs := h
  obtain ⟨p, cap, rfl, hx⟩ := h
  clear hx
  by_cases hbig : 1048576 < xs.length
  · go_enter Try.func4, Try.ntmps4
    go_wp2
    go_ret
    exact ⟨rfl, Below.refl _ _⟩
  · have hl : xs.length ≤ 1099511627776 := by omega
    have hyl : (gapsR xs).length ≤ 1099511627776 := gapsR_len _
    go_enter Try.func4, Try.ntmps4
    go_wp2_with fail
    refine (toIntS_any _ _ _ hs hl).mono ?_
    rintro e w1 ⟨u1, rfl, o1, a1', b1⟩
    go_wp2_with fail
    refine (specGapsOf_any _ _ _ (o1.sp a1') hl).mono ?_
    rintro e w2 ⟨v2, rfl, o2, b2⟩
    have z1 := b1.size
    have o2 := o2.mono z1
    have t2 := nxt b1 b2
    clear o1 b1 b2 a1'
    go_wp2_with fail
    refine (toIntS_any _ _ _ (hs.below t2 (Nat.le_refl _)) hl).mono ?_
    rintro e w3 ⟨u3, rfl, o3, a3, b3⟩
    have z2 := t2.size
    have p2 := ap_below o2 a3 (Nat.le_refl _)
    have lt3 := own_lt o3 a3
    have q2 := o2.below b3 (Nat.le_refl _)
    have t3 := nxt t2 b3
    clear b3 t2
    go_wp2_with fail
    refine (implGapsOf_any _ _ _ (o3.sp a3) hl).mono ?_
    rintro e w4 ⟨g4, rfl, o4, b4⟩
    have z3 := t3.size
    have p4 := ap_above o4 a3 lt3
    have p24 := ap_two o2 o4 (by omega)
    have o4 := o4.mono z3
    have q2 := q2.below b4 (Nat.le_refl _)
    have q3 := o3.below b4 (Nat.le_refl _)
    have t4 := nxt t3 b4
    clear o3 b4 t3 o2
    go_wp2_with fail
    refine (eqIntS_yes _ _ _ _ _ o4.sv q2.sv rfl hyl).mono ?_
    rintro e w5 ⟨rfl, b5⟩
    have o4 := o4.below b5 (Nat.le_refl _)
    have q2 := q2.below b5 (Nat.le_refl _)
    have q3 := q3.below b5 (Nat.le_refl _)
    have t5 := nxt t4 b5
    clear b5 t4
    go_wp2_with fail
    refine (toIntS_any _ _ _ (hs.below t5 (Nat.le_refl _)) hl).mono ?_
    rintro e w6 ⟨u6, rfl, o6, -, b6⟩
    have o4 := o4.below b6 (Nat.le_refl _)
    have q2 := q2.below b6 (Nat.le_refl _)
    have q3 := q3.below b6 (Nat.le_refl _)
    have t6 := nxt t5 b6
    clear b6 t5
    go_wp2_with fail
    refine (eqIntS_yes _ _ _ _ _ q3.sv o6.sv rfl hl).mono ?_
    rintro e w7 ⟨rfl, b7⟩
    have o4 := o4.below b7 (Nat.le_refl _)
    have q2 := q2.below b7 (Nat.le_refl _)
    have q3 := q3.below b7 (Nat.le_refl _)
    have t7 := nxt t6 b7
    have z7 := t7.size
    clear b7 t6 o6
    go_wp2_with fail
    refine (markIntS_any _ xs _ 1 _ q3 hl (by omega) (by omega)).mono ?_
    rintro e w8 ⟨rfl, -, g8⟩
    have o4 := o4.kept g8 p4
    have q2 := q2.kept g8 p2
    have t8 := t7.trans (q3.marked z2 (Nat.le_of_lt (own_lt q3 a3)) g8)
    have z8 := t8.size
    clear q3 g8 t7 a3
    go_wp2_with fail
    refine (eqIntS_yes _ _ _ _ _ o4.sv q2.sv rfl hyl).mono ?_
    rintro e w9 ⟨rfl, b9⟩
    have o4 := o4.below b9 (Nat.le_refl _)
    have q2 := q2.below b9 (Nat.le_refl _)
    have t9 := nxt t8 b9
    have z9 := t9.size
    clear b9 t8
    go_wp2_with fail
    refine (markIntS_any _ (gapsR xs) _ 1 _ o4 hyl (by omega) (by omega)).mono ?_
    rintro e w10 ⟨rfl, o10, g10⟩
    have q2 := q2.kept g10 p24
    have t10 := t9.trans (o4.marked (Nat.le_refl _) z9 g10)
    clear o4 g10 t9
    go_wp2_with fail
    refine (heldIntS_any _ (gapsR xs).length 1 _ o10.sv hyl (by omega) (by omega)).mono ?_
    rintro e w10' ⟨rfl, rfl⟩
    go_wp2_with fail
    refine (toIntS_any _ _ _ (hs.below t10 (Nat.le_refl _)) hl).mono ?_
    rintro e w11 ⟨u11, rfl, o11, a11, b11⟩
    have o10 := o10.below b11 (Nat.le_refl _)
    have q2 := q2.below b11 (Nat.le_refl _)
    have t11 := nxt t10 b11
    clear b11 t10
    go_wp2_with fail
    refine (implGapsOf_any _ _ _ (o11.sp a11) hl).mono ?_
    rintro e w12 ⟨h12, rfl, o12, b12⟩
    have o10 := o10.below b12 (Nat.le_refl _)
    have q2 := q2.below b12 (Nat.le_refl _)
    have t12 := nxt t11 b12
    clear b12 t11 o11 a11
    go_wp2_with fail
    refine (eqIntS_yes _ _ _ _ _ o12.sv q2.sv rfl hyl).mono ?_
    rintro e w13 ⟨rfl, b13⟩
    have o10 := o10.below b13 (Nat.le_refl _)
    have t13 := nxt t12 b13
    clear b13 t12 o12 q2
    go_wp2_with fail
    refine (heldIntS_any _ (gapsR xs).length 1 _ o10.sv hyl (by omega) (by omega)).mono ?_
    rintro e w13' ⟨rfl, rfl⟩
    go_wp2_with fail
    go_ret
    exact ⟨rfl, t13⟩

end Go.Proofs.Ytmcbhpmkhbmlgaa
