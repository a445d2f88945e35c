/-
  TakePiece in the model and in the program, by their contracts: both give the same pieces. Conditions: none but a slice that isn't nil (the law copies what comes in).
-/
import Derived.Test.YtpijogajjinedaaLawP
import Derived.IntWalk
import Derived.Deep.DeepMust
namespace Go.Proofs.Ytpijogajjinedaa
open Go.RowKit

def rmAt (xs : List Int) (k : Nat) : List Int := xs.take k ++ xs.drop (k + 1)
def NoTo (xs : List Int) (n : Int) (k : Nat) : Prop := ∀ j, j < k → xs.getD j 0 ≠ n
structure First (xs : List Int) (n : Int) (k : Nat) : Prop where
  lt : k < xs.length
  eq : xs.getD k 0 = n
  no : NoTo xs n k
theorem First.unique {xs : List Int} {n : Int} {k j : Nat} (h : First xs n k) (g : First xs n j) : k = j := by
  by_cases h1 : k < j
  · exact absurd h.eq (g.no k h1)
  · by_cases h2 : j < k
    · exact absurd g.eq (h.no j h2)
    · omega
noncomputable def hasB (xs : List Int) (n : Int) : Bool := @decide (∃ k, First xs n k) (Classical.propDecidable _)
noncomputable def takeL (xs : List Int) (n : Int) : List Int := @dite _ (∃ k, First xs n k) (Classical.propDecidable _) (fun h => rmAt xs h.choose) (fun _ => [])
theorem take_yes {xs : List Int} {n : Int} {k : Nat} (h : First xs n k) : hasB xs n = true ∧ takeL xs n = rmAt xs k := by
  have hex : ∃ k, First xs n k := ⟨k, h⟩
  refine ⟨by simp [hasB, hex], ?_⟩
  unfold takeL
  rw [dif_pos hex, h.unique hex.choose_spec]
theorem take_no {xs : List Int} {n : Int} (h : NoTo xs n xs.length) : hasB xs n = false ∧ takeL xs n = [] := by
  have hex : ¬ ∃ k, First xs n k := fun ⟨k, hk⟩ => h k hk.lt hk.eq
  refine ⟨by simp [hasB, hex], ?_⟩
  unfold takeL
  rw [dif_neg hex]
theorem NoTo.step {xs : List Int} {n x : Int} {k : Nat} (h : NoTo xs n k) (hx : xs.getD k 0 = x) (hn : x ≠ n) : NoTo xs n (k + 1) := by
  intro j hj
  by_cases e : j = k
  · subst e; rw [hx]; exact hn
  · exact h j (by omega)
theorem rm_len {xs : List Int} {k : Nat} (h : k < xs.length) : (rmAt xs k).length + 1 = xs.length := by
  simp only [rmAt, List.length_append, List.length_take, List.length_drop]; omega
theorem LB.first {xs : List Int} {n : Int} {k : Nat} (h : LB xs n k) (hf : foundB xs n k = true) : First xs n k := by
  simp only [foundB, decide_eq_true_eq] at hf
  exact ⟨hf.1, hf.2, fun j hj => by have := h.lo j hj; omega⟩
theorem LB.none {xs : List Int} {n : Int} {k : Nat} (hg : Good xs) (h : LB xs n k) (hf : foundB xs n k = false) : NoTo xs n xs.length := by
  simp only [foundB, decide_eq_false_iff_not] at hf
  intro j hj
  by_cases h1 : j < k
  · have := h.lo j h1; omega
  · intro e
    have h2 := hg.le (show k ≤ j by omega) hj
    have h3 := h.hi k (Nat.le_refl _) (by omega)
    exact hf ⟨by omega, by omega⟩
noncomputable def takeB (xs : List Int) (n : Int) : Bool := goodB xs && hasB xs n
noncomputable def takeR (xs : List Int) (n : Int) : List Int := if takeB xs n = true then takeL xs n else []
theorem takeB_no {xs : List Int} {n : Int} (h : goodB xs = false) : takeB xs n = false ∧ takeR xs n = [] := by
  have e : takeB xs n = false := by simp [takeB, h]
  exact ⟨e, by simp [takeR, e]⟩
theorem takeB_none {xs : List Int} {n : Int} (h : hasB xs n = false) : takeB xs n = false ∧ takeR xs n = [] := by
  have e : takeB xs n = false := by simp [takeB, h]
  exact ⟨e, by simp [takeR, e]⟩
theorem takeB_good {xs : List Int} {n : Int} (hg : goodB xs = true) : takeB xs n = hasB xs n ∧ takeR xs n = takeL xs n := by
  have e : takeB xs n = hasB xs n := by simp [takeB, hg]
  refine ⟨e, ?_⟩
  unfold takeR
  rw [e]
  by_cases h : hasB xs n = true
  · rw [if_pos h]
  · rw [if_neg h]
    unfold takeL
    rw [dif_neg]
    intro hex
    exact h (by simp [hasB, hex])
theorem takeR_len (xs : List Int) (n : Int) : (takeR xs n).length ≤ 1099511627776 := by
  unfold takeR
  by_cases h : takeB xs n = true
  · rw [if_pos h]
    unfold takeB at h
    simp only [Bool.and_eq_true] at h
    have hg := (goodB_iff.1 h.1).len
    unfold takeL
    split
    · simp only [rmAt, List.length_append, List.length_take, List.length_drop]; omega
    · simp
  · rw [if_neg h]; simp

set_option maxHeartbeats 4000000 in
set_option maxRecDepth 100000 in
theorem piTake_any (v : Value) (xs : List Int) (n : Int) (w : World) (h : Sp w v xs) (hg : Good xs) :
    Calls Try.prog 78 #[v, .int .i64 n] w fun e w' => ∃ u, e = .returned (.tuple #[u, .bool (hasB xs n)]) ∧ Ow w' w.heap.size u (takeL xs n) ∧ Below w.heap.size w w' := by
  have hl := hg.len
  obtain ⟨b, off, cap, rfl, hcap, hcm, hbl, hc⟩ := h
  have hcm : cap ≤ 9223372036854775807 := by unfold maxLen at hcm; exact hcm
  go_enter Try.func78, Try.ntmps78
  go_wp2
  go_loop [10] (fun a => ∃ k : Nat, k ≤ xs.length ∧ a = .int .i64 k ∧ NoTo xs n k) (fun a => xs.length - (intOf a).toNat)
  case atStart => exact ⟨0, by omega, rfl, fun j hj => by omega⟩
  case round =>
    obtain ⟨k, hk, rfl, ha⟩ := hrel
    by_cases hlt : k < xs.length
    · have hcell := hc k hlt
      obtain ⟨x, ex⟩ : ∃ x, xs.getD k 0 = x := ⟨_, rfl⟩
      rw [ex] at hcell
      have EX := Lib.hid ex
      clear ex
      by_cases hx : x = n
      · have d2 : (x == n) = true := by simpa using hx
        have R := Lib.hid (take_yes (⟨hlt, by rw [EX.out]; exact hx, ha⟩ : First xs n k))
        have st := src_take (w := w) (b := b) (off := off) (c := cap) hbl hc hk
        have sd := src_drop (w := w) (b := b) (off := off) (c := cap - (k + 1)) (k := k + 1) hbl hc
        have hi0 : (0 : Int) ≤ (k : Int) := by omega
        have hi1 : (k : Int) ≤ (cap : Int) := by omega
        have hi2 : (k : Int) + 1 ≤ (xs.length : Int) := by omega
        have hi3 : (0 : Int) ≤ (k : Int) + 1 := by omega
        have hw : IntKind.i64.wrap ((k : Int) + 1) = (k : Int) + 1 := IntWalk.i64_in _ (by omega)
        have ht : ((k : Int) + 1).toNat = k + 1 := by omega
        have hi4 : (k : Int) ≤ (k : Int) + 1 := by omega
        have hlist : (xs.take k).length + (xs.drop (k + 1)).length ≤ 1000 := by simp only [List.length_take, List.length_drop]; omega
        have hli2 : (xs.take k).length ≤ 1000 := by simp only [List.length_take]; omega
        clear hc hx
        by_cases hcc : cap = k + 1
        · have sE := src_end (w := w) (b := b) (off := off) (c := 0) (k := k + 1) (xs := xs) hbl (by omega)
          rw [show xs.length - (k + 1) = 0 by omega] at sE
          clear sd
          subst hcc
          have sd := sE
          clear sE
          go_wp2
          go_region_law (first
            | (go_simp; go_at_call 86; refine (l1Own_any _ (xs.take k) _ (by exact st.below ((Below.refl _ w).drew) (Nat.le_refl _)) (by omega)).mono ?_; rintro e w1 ⟨v1, rfl, o1, b1⟩; have O1 : Ow w1 w.heap.size v1 (xs.take k) := o1.mono (by simp); have B1 : Below w.heap.size w w1 := (by exact (Below.refl _ w).drew.trans b1); have Z1 := B1.size; have sd2 := sd.below B1 (Nat.le_refl _); clear o1 b1)
            | (refine step_append_src rfl (.tmp 21) (.tmp 25) rfl w.heap.size _ (xs.take k) rfl (by exact O1) _ (xs.drop (k + 1)) rfl (by exact sd2) (by omega) Z1 ?_; intro v2 w2 o2 g2; have B2 : Below w.heap.size w w2 := (by exact B1.trans (O1.grown Z1 g2)); clear O1 g2 B1 Z1))
          all_goals
            go_wp2
            go_ret2
            exact ⟨_, ret_lb rfl R.out.1.symm, by rw [R.out.2]; exact o2, B2⟩
        · go_wp2
          go_region_law (first
            | (go_simp; go_at_call 86; refine (l1Own_any _ (xs.take k) _ (by exact st.below ((Below.refl _ w).drew) (Nat.le_refl _)) (by omega)).mono ?_; rintro e w1 ⟨v1, rfl, o1, b1⟩; have O1 : Ow w1 w.heap.size v1 (xs.take k) := o1.mono (by simp); have B1 : Below w.heap.size w w1 := (by exact (Below.refl _ w).drew.trans b1); have Z1 := B1.size; have sd2 := sd.below B1 (Nat.le_refl _); clear o1 b1)
            | (refine step_append_src rfl (.tmp 21) (.tmp 25) rfl w.heap.size _ (xs.take k) rfl (by exact O1) _ (xs.drop (k + 1)) rfl (by exact sd2) (by omega) Z1 ?_; intro v2 w2 o2 g2; have B2 : Below w.heap.size w w2 := (by exact B1.trans (O1.grown Z1 g2)); clear O1 g2 B1 Z1))
          all_goals
            go_wp2
            go_ret2
            exact ⟨_, ret_lb rfl R.out.1.symm, by rw [R.out.2]; exact o2, B2⟩
      · have d2 : (x == n) = false := by simpa using hx
        have hn := ha.step EX.out hx
        have HN := Lib.hid hn
        clear hx hc hn
        go_wp2
        go_round
        case rel => exact ⟨k + 1, by omega, by go_num, HN.out⟩
        case measure => simp only [intOf]; omega
    · have hkl : k = xs.length := by omega
      subst hkl
      have R := Lib.hid (take_no ha)
      clear hc
      go_wp2
      go_ret2
      exact ⟨_, ret_lb rfl R.out.1.symm, by rw [R.out.2]; exact ow_nil _ _, Below.refl _ _⟩

set_option maxHeartbeats 4000000 in
set_option maxRecDepth 100000 in
theorem without_any (v : Value) (xs : List Int) (k : Nat) (w : World) (h : Sp w v xs) (hl : xs.length ≤ 20) (hk : k < xs.length) :
    Calls Try.prog 79 #[v, .int .i64 k] w fun e w' => ∃ u, e = .returned u ∧ Ow w' w.heap.size u (rmAt xs k) ∧ Below w.heap.size w w' := by
  obtain ⟨b, off, cap, rfl, hcap, hcm, hbl, hc⟩ := h
  have hcm : cap ≤ 9223372036854775807 := by unfold maxLen at hcm; exact hcm
  have st := src_take (w := w) (b := b) (off := off) (c := cap) (k := k) hbl hc (by omega)
  have sd := src_drop (w := w) (b := b) (off := off) (c := cap - (k + 1)) (k := k + 1) hbl hc
  have hi0 : (0 : Int) ≤ (k : Int) := by omega
  have hi1 : (k : Int) ≤ (cap : Int) := by omega
  have hi2 : (k : Int) + 1 ≤ (xs.length : Int) := by omega
  have hi3 : (0 : Int) ≤ (k : Int) + 1 := by omega
  have hw : IntKind.i64.wrap ((k : Int) + 1) = (k : Int) + 1 := IntWalk.i64_in _ (by omega)
  have ht : ((k : Int) + 1).toNat = k + 1 := by omega
  have hi4 : (k : Int) ≤ (k : Int) + 1 := by omega
  have hlist : (xs.take k).length ≤ 1048576 ∧ (xs.drop (k + 1)).length ≤ 1048576 := by simp only [List.length_take, List.length_drop]; omega
  clear hc
  go_enter Try.func79, Try.ntmps79
  by_cases hcc : cap = k + 1
  · have sE := src_end (w := w) (b := b) (off := off) (c := 0) (k := k + 1) (xs := xs) hbl (by omega)
    rw [show xs.length - (k + 1) = 0 by omega] at sE
    clear sd
    subst hcc
    have sd := sE
    clear sE
    go_wp2
    go_region_with (go_at_call 77; go_must (refine (concat2_any _ _ _ _ _ _ (by exact heap_alloc_new w _) (by exact st.below ((Below.refl _ w).alloc (Nat.le_refl _) _).drew (Nat.le_refl _)) (by exact sd.below ((Below.refl _ w).alloc (Nat.le_refl _) _).drew (Nat.le_refl _)) hlist.1 hlist.2).mono ?_); rintro e w3 ⟨u, rfl, o3, b3⟩)
    have b4 : Below w.heap.size w w3 := ((Below.refl _ w).alloc (Nat.le_refl _) _).drew.trans (b3.mono (by simp))
    go_wp2
    go_ret
    exact ⟨_, rfl, o3.mono (by simp), b4⟩
  · go_wp2
    go_region_with (go_at_call 77; go_must (refine (concat2_any _ _ _ _ _ _ (by exact heap_alloc_new w _) (by exact st.below ((Below.refl _ w).alloc (Nat.le_refl _) _).drew (Nat.le_refl _)) (by exact sd.below ((Below.refl _ w).alloc (Nat.le_refl _) _).drew (Nat.le_refl _)) hlist.1 hlist.2).mono ?_); rintro e w3 ⟨u, rfl, o3, b3⟩)
    have b4 : Below w.heap.size w w3 := ((Below.refl _ w).alloc (Nat.le_refl _) _).drew.trans (b3.mono (by simp))
    go_wp2
    go_ret
    exact ⟨_, rfl, o3.mono (by simp), b4⟩

set_option maxHeartbeats 4000000 in
theorem specTakePiece_any (v : Value) (xs : List Int) (n : Int) (w : World) (h : Sp w v xs) (hl : xs.length ≤ 1099511627776) :
    Calls Try.prog 45 #[v, .int .i64 n] w fun e w' => ∃ u, e = .returned (.tuple #[u, .bool (takeB xs n)]) ∧ Ow w' w.heap.size u (takeR xs n) ∧ Below w.heap.size w w' := by
  by_cases hg : Good xs
  · have hgb := goodB_yes hg
    have HR := Lib.hid (takeB_good (n := n) hgb)
    go_enter Try.func45, Try.ntmps45
    go_wp2_with fail
    refine (piGood_any _ _ _ h.sv hl).mono ?_
    rintro e w1 ⟨rfl, b1⟩
    have h1 := h.below b1 (Nat.le_refl _)
    go_wp2_with fail
    refine (piTake_any _ _ _ _ h1 hg).mono ?_
    rintro e w2 ⟨u, rfl, o2, b2⟩
    go_wp2_with fail
    go_ret2
    exact ⟨_, ret_lb rfl HR.out.1.symm, by rw [HR.out.2]; exact o2.mono b1.size, nxt b1 b2⟩
  · have hgb := goodB_no hg
    have HR := Lib.hid (takeB_no (n := n) hgb)
    go_enter Try.func45, Try.ntmps45
    go_wp2_with fail
    refine (piGood_any _ _ _ h.sv hl).mono ?_
    rintro e w1 ⟨rfl, b1⟩
    go_wp2_with fail
    go_ret2
    exact ⟨_, ret_lb rfl HR.out.1.symm, by rw [HR.out.2]; exact ow_nil _ _, b1⟩

set_option maxHeartbeats 4000000 in
theorem implTakePiece_any (v : Value) (xs : List Int) (n : Int) (w : World) (h : Sp w v xs) (hl : xs.length ≤ 1099511627776) :
    Calls Try.prog 46 #[v, .int .i64 n] w fun e w' => ∃ u, e = .returned (.tuple #[u, .bool (takeB xs n)]) ∧ Ow w' w.heap.size u (takeR xs n) ∧ Below w.heap.size w w' := by
  by_cases hg : Good xs
  · have hgb := goodB_yes hg
    have HR := Lib.hid (takeB_good (n := n) hgb)
    go_enter Try.func46, Try.ntmps46
    go_wp2_with fail
    refine (arePieces_any _ _ _ h.sv hl).mono ?_
    rintro e w1 ⟨rfl, b1⟩
    have h1 := h.below b1 (Nat.le_refl _)
    go_wp2_with fail
    refine (search_any _ _ _ _ h1.sv hg).mono ?_
    rintro e w1' ⟨k, rfl, hk, rfl⟩
    by_cases hf : foundB xs n k = true
    · have hF := hk.first hf
      have R := Lib.hid (take_yes hF)
      have hlt := hF.lt
      go_wp2_with fail
      refine (without_any _ _ k _ h1 hg.len hlt).mono ?_
      rintro e w2 ⟨u, rfl, o2, b2⟩
      go_wp2_with fail
      go_ret2
      exact ⟨_, ret_lb rfl (by rw [HR.out.1, R.out.1]), by rw [HR.out.2, R.out.2]; exact o2.mono b1.size, nxt b1 b2⟩
    · have hf : foundB xs n k = false := by simpa using hf
      have R := Lib.hid (take_no (hk.none hg hf))
      go_wp2_with fail
      go_ret2
      exact ⟨_, ret_lb rfl (by rw [HR.out.1, R.out.1]), by rw [HR.out.2, R.out.2]; exact ow_nil _ _, b1⟩
  · have hgb := goodB_no hg
    have HR := Lib.hid (takeB_no (n := n) hgb)
    go_enter Try.func46, Try.ntmps46
    go_wp2_with fail
    refine (arePieces_any _ _ _ h.sv hl).mono ?_
    rintro e w1 ⟨rfl, b1⟩
    go_wp2_with fail
    go_ret2
    exact ⟨_, ret_lb rfl HR.out.1.symm, by rw [HR.out.2]; exact ow_nil _ _, b1⟩

set_option maxHeartbeats 4000000 in
theorem lawTakePiece (v : Value) (xs : List Int) (a1 : Int) (w : World) (h : Sv w v xs) (hm : xs.length ≤ 9223372036854775807) :
    Calls Try.prog 14 #[v, .int .i64 a1] w fun e w' => e = .returned (.bool true) ∧ Below w.heap.size w w' := by
  have hs := h
  obtain ⟨p, cap, rfl, hx⟩ := h
  clear hx
  by_cases hbig : 1048576 < xs.length
  · go_enter Try.func14, Try.ntmps14
    go_wp2
    go_ret
    exact ⟨rfl, Below.refl _ _⟩
  · have hl : xs.length ≤ 1099511627776 := by omega
    have hyl : (takeR xs a1).length ≤ 1099511627776 := takeR_len _ _
    go_enter Try.func14, Try.ntmps14
    go_wp2_with fail
    refine (toIntS_any _ _ _ hs hl).mono ?_
    rintro e w1 ⟨u1, rfl, o1, a1', b1⟩
    go_wp2_with fail
    refine (specTakePiece_any _ _ _ _ (o1.sp a1') hl).mono ?_
    rintro e w2 ⟨v2, rfl, o2, b2⟩
    have z1 := b1.size
    have o2 := o2.mono z1
    have t2 := nxt b1 b2
    clear o1 b1 b2 a1'
    go_wp2_with fail
    refine (toIntS_any _ _ _ (hs.below t2 (Nat.le_refl _)) hl).mono ?_
    rintro e w3 ⟨u3, rfl, o3, a3, b3⟩
    have z2 := t2.size
    have p2 := ap_below o2 a3 (Nat.le_refl _)
    have lt3 := own_lt o3 a3
    have q2 := o2.below b3 (Nat.le_refl _)
    have t3 := nxt t2 b3
    clear b3 t2
    go_wp2_with fail
    refine (implTakePiece_any _ _ _ _ (o3.sp a3) hl).mono ?_
    rintro e w4 ⟨g4, rfl, o4, b4⟩
    have z3 := t3.size
    have p4 := ap_above o4 a3 lt3
    have p24 := ap_two o2 o4 (by omega)
    have o4 := o4.mono z3
    have q2 := q2.below b4 (Nat.le_refl _)
    have q3 := o3.below b4 (Nat.le_refl _)
    have t4 := nxt t3 b4
    clear o3 b4 t3 o2
    go_wp2_with fail
    refine (eqIntS_yes _ _ _ _ _ o4.sv q2.sv rfl hyl).mono ?_
    rintro e w5 ⟨rfl, b5⟩
    have o4 := o4.below b5 (Nat.le_refl _)
    have q2 := q2.below b5 (Nat.le_refl _)
    have q3 := q3.below b5 (Nat.le_refl _)
    have t5 := nxt t4 b5
    clear b5 t4
    go_wp2_with fail
    refine (toIntS_any _ _ _ (hs.below t5 (Nat.le_refl _)) hl).mono ?_
    rintro e w6 ⟨u6, rfl, o6, -, b6⟩
    have o4 := o4.below b6 (Nat.le_refl _)
    have q2 := q2.below b6 (Nat.le_refl _)
    have q3 := q3.below b6 (Nat.le_refl _)
    have t6 := nxt t5 b6
    clear b6 t5
    go_wp2_with fail
    refine (eqIntS_yes _ _ _ _ _ q3.sv o6.sv rfl hl).mono ?_
    rintro e w7 ⟨rfl, b7⟩
    have o4 := o4.below b7 (Nat.le_refl _)
    have q2 := q2.below b7 (Nat.le_refl _)
    have q3 := q3.below b7 (Nat.le_refl _)
    have t7 := nxt t6 b7
    have z7 := t7.size
    clear b7 t6 o6
    go_wp2_with fail
    refine (markIntS_any _ xs _ 1 _ q3 hl (by omega) (by omega)).mono ?_
    rintro e w8 ⟨rfl, -, g8⟩
    have o4 := o4.kept g8 p4
    have q2 := q2.kept g8 p2
    have t8 := t7.trans (q3.marked z2 (Nat.le_of_lt (own_lt q3 a3)) g8)
    have z8 := t8.size
    clear q3 g8 t7 a3
    go_wp2_with fail
    refine (eqIntS_yes _ _ _ _ _ o4.sv q2.sv rfl hyl).mono ?_
    rintro e w9 ⟨rfl, b9⟩
    have o4 := o4.below b9 (Nat.le_refl _)
    have q2 := q2.below b9 (Nat.le_refl _)
    have t9 := nxt t8 b9
    have z9 := t9.size
    clear b9 t8
    go_wp2_with fail
    refine (markIntS_any _ (takeR xs a1) _ 1 _ o4 hyl (by omega) (by omega)).mono ?_
    rintro e w10 ⟨rfl, o10, g10⟩
    have q2 := q2.kept g10 p24
    have t10 := t9.trans (o4.marked (Nat.le_refl _) z9 g10)
    clear o4 g10 t9
    go_wp2_with fail
    refine (heldIntS_any _ (takeR xs a1).length 1 _ o10.sv hyl (by omega) (by omega)).mono ?_
    rintro e w10' ⟨rfl, rfl⟩
    go_wp2_with fail
    refine (toIntS_any _ _ _ (hs.below t10 (Nat.le_refl _)) hl).mono ?_
    rintro e w11 ⟨u11, rfl, o11, a11, b11⟩
    have o10 := o10.below b11 (Nat.le_refl _)
    have q2 := q2.below b11 (Nat.le_refl _)
    have t11 := nxt t10 b11
    clear b11 t10
    go_wp2_with fail
    refine (implTakePiece_any _ _ _ _ (o11.sp a11) hl).mono ?_
    rintro e w12 ⟨h12, rfl, o12, b12⟩
    have o10 := o10.below b12 (Nat.le_refl _)
    have q2 := q2.below b12 (Nat.le_refl _)
    have t12 := nxt t11 b12
    clear b12 t11 o11 a11
    go_wp2_with fail
    refine (eqIntS_yes _ _ _ _ _ o12.sv q2.sv rfl hyl).mono ?_
    rintro e w13 ⟨rfl, b13⟩
    have o10 := o10.below b13 (Nat.le_refl _)
    have t13 := nxt t12 b13
    clear b13 t12 o12 q2
    go_wp2_with fail
    refine (heldIntS_any _ (takeR xs a1).length 1 _ o10.sv hyl (by omega) (by omega)).mono ?_
    rintro e w13' ⟨rfl, rfl⟩
    go_wp2_with fail
    go_ret
    exact ⟨rfl, t13⟩

end Go.Proofs.Ytpijogajjinedaa
