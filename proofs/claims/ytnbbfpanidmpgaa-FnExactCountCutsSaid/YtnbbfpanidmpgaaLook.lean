/-
  The model's search through all cuts, by its contract. Conditions: a chain of at most 63 links.
-/
import Derived.Test.YtnbbfpanidmpgaaSlr
import Derived.Test.YtnbbfpanidmpgaaCnum
namespace Go.Proofs.Ytnbbfpanidmpgaa
open Go.RowKit

theorem Try.infoR : (Try.prog.info? 22).map (fun i => (i.zero, i.size, i.bytes)) = some (some (.slice none 0 0), 1, 24) := by kernel_rfl
theorem step_append_row {w : World} {ops : Array Oper} {o : Oper} {a : Act} {K : Act → World → Prop} {Q : Exit → Act → World → Prop} {E : Prop} (hgd : o.guard = none) (s x : Operand)
    (ho : o.op = .call { callee := .builtin .append, args := #[s, x], argTypes := #[47, 47] })
    (B : Nat) (v : Value) (n : Nat) (hd : List Int) (hs : a.eval s = v) (hr : RowS w B v n hd) (g : Nat) (u : Value) (c : List Int) (hx : a.eval x = .slice (some ⟨g, 0, none⟩) 1 1) (hgc : w.cell? ⟨g, 0, none⟩ = some u) (hu : Ow w B u c) (hu1 : u.oneCell' = true) (hlen : n + 1 ≤ 1048577) (hB : B ≤ w.heap.size)
    (h : ∀ v' w' vals, w.ownsRow B 22 1 v n vals → RowS w' B v' (n + 1) (hdA n hd [c]) → w.grownBy w' v.ownBlock → K (a.put o.dst v') w') :
    if Region.wanted o (yielded ops a.tmps) = true then Oper.wp Try.prog o a w K Q else E := by
  have hw : Region.wanted o (yielded ops a.tmps) = true := by simp [Region.wanted, hgd]
  rw [if_pos hw]
  obtain ⟨i0, hi, hz0, hz1, hz2⟩ := info_parts Try.infoR
  obtain ⟨vals, h1, h2⟩ := hr
  refine wp_append_own w s x 47 ho B 22 i0 (.slice none 0 0) 1 24 Try.underlying47 hi hz0 hz1 hz2 rfl (by decide) v n vals hs h1 ⟨g, 0, none⟩ 1 1 [u] hx rfl ?_ ?_ (by unfold maxLen; omega) (by omega) hB ?_
  · intro j y hy
    cases j with
    | zero =>
      have e : u = y := by simpa using hy
      have e2 : (⟨g, 0, none⟩ : Addr).add 0 = ⟨g, 0, none⟩ := by simp [Addr.add]
      rw [e2, ← e]; exact hgc
    | succ j => simp at hy
  · intro y hy; simp at hy; subst hy; exact hu1
  · intro v' w' h3 h4 _
    exact h v' w' vals h1 (RowS.appended h1 h2 hu h3 h4) h4
theorem Ow.one {w : World} {B : Nat} {v : Value} {ys : List Int} (h : Ow w B v ys) : v.oneCell' = true := by
  rcases h.form with ⟨rfl, _⟩ | ⟨g, cap, rfl, _, _⟩ <;> rfl

/-- What the search leaves behind. -/
def Look (w : World) (P n : Nat) (hd : List Int) (L : List (List Int)) (w' : World) : Prop := ∃ v', Boxed w' P 47 v' ∧ RowS w' (P + 1) v' (n + L.length) (hdA n hd L) ∧ K2 P w w'

theorem look_end {w w2 w3 : World} {P n : Nat} {v v3 : Value} {hd c : List Int} {vals : List Value} (hk : K2 P w w2) (hP2 : Boxed w2 P 47 v) (h1 : w2.ownsRow (P + 1) 22 1 v n vals) (h3 : RowS w3 (P + 1) v3 (n + 1) (hdA n hd [c])) (g3 : w2.grownBy w3 v.ownBlock) :
    Look w P n hd [c] (w3.setCell ⟨P, 0, none⟩ v3) := by
  have hP3 : Boxed w3 P 47 v := hP2.kept g3 (row_ne_low h1 (Nat.lt_succ_self P))
  have hlt := hP2.lt
  refine ⟨v3, hP3.set v3, ?_, (hk.trans (K2.grown h1 g3 (by omega) (by omega))).trans (K2.store hP3 v3)⟩
  exact h3.kept (grownBy_setCell' w3 P v3) (fun vals hv => .inr (fun e => row_ne_low hv (Nat.lt_succ_self P) e.symm)) (fun u hu => .inr (fun e => row_ne_low hu (Nat.lt_succ_self P) e.symm))
theorem look_none {w w1 : World} {P n : Nat} {v : Value} {hd : List Int} (hP : Boxed w1 P 47 v) (hr : RowS w1 (P + 1) v n hd) (hk : K2 P w w1) : Look w P n hd [] w1 := by
  refine ⟨v, hP, ?_, hk⟩
  obtain ⟨vals, h1, h2⟩ := hr
  refine ⟨vals, h1, fun hn => ?_⟩
  have hn' : 0 < n := by simpa using hn
  rw [hdA_nil hn']; exact h2 hn'
theorem Look.go {w w2 w3 : World} {P n : Nat} {hd : List Int} {L L2 : List (List Int)} (hk : K2 P w w2) (h : Look w2 P (n + L.length) (hdA n hd L) L2 w3) : Look w P n hd (L ++ L2) w3 := by
  obtain ⟨v, h1, h2, h3⟩ := h
  refine ⟨v, h1, ?_, hk.trans h3⟩
  rw [List.length_append, ← Nat.add_assoc, hdA_app]; exact h2
theorem cell_alloc (w : World) (u : Value) (t : TypeId) : (w.alloc (.cells #[u] t)).cell? ⟨w.heap.size, 0, none⟩ = some u := (Boxed.new w t u).cell

set_option maxHeartbeats 8000000 in
set_option maxRecDepth 100000 in
theorem look0 (m : Int) (hm : 1 ≤ m ∧ m ≤ 63) (c : List Int) (vb v : Value) (P n : Nat) (hd : List Int) (w : World) (hc : CutsOk m c) (hb : Ow w 0 vb c) (hP : Boxed w P 47 v) (hr : RowS w (P + 1) v n hd) (hn : n + (selM m c (freeAt c c.length) 0).length ≤ 1048576) :
    Calls Try.prog 94 #[.int .i64 m, .int .i64 0, vb, .pointer (some ⟨P, 0, none⟩)] w fun e w' => e = .returned (.tuple #[]) ∧ Look w P n hd (selM m c (freeAt c c.length) 0) w' := by
  have hlt := hP.lt
  rw [selM_zero] at hn ⊢
  by_cases hp : payB m c = true
  · rw [if_pos hp] at hn ⊢
    have hc9 := hc.2.1
    simp only [List.length_cons, List.length_nil] at hn
    go_enter Try.func94, Try.ntmps94
    go_wp2_with fail
    refine (chPay_any _ _ _ _ hb.sv hc).mono ?_
    rw [hp]
    rintro e w1 ⟨rfl, b1⟩
    have hb1 := hb.below b1 (Nat.le_refl _)
    have hr1 := hr.below b1 (Nat.le_refl _)
    have hP1 : Boxed w1 P 47 v := (b1.block P hlt).trans hP
    have hlt1 := hP1.lt
    have hcell := hP1.cell
    have hfz := hP1.frozen
    have hk1 : K2 P w w1 := K2.of b1 (by omega)
    have st := hb1.src
    clear hb hr hP b1 hp
    have hP18 : P + 1 ≤ w1.heap.size := hlt1
    go_wp2_with fail
    go_region_law (first
      | (go_simp; go_at_call 76; refine (l1Own_any _ c _ (by first | exact st.below ((Below.refl _ w1).drew) (Nat.le_refl _) | exact st) (by omega)).mono ?_; rintro e w2 ⟨u2, rfl, o2, b2⟩; have B2 : Below w1.heap.size w1 w2 := (by first | exact (Below.refl _ w1).drew.trans b2 | exact b2); have O2 : Ow w2 (P + 1) u2 c := o2.mono hP18; have R2 := hr1.below B2 (Nat.le_refl _); have hP2 : Boxed w2 P 47 v := (B2.block P hlt1).trans hP1; have hcell2 := hP2.cell; have hfz2 := hP2.frozen; have hlt2 := hP2.lt; clear o2 b2; obtain ⟨q2, cp2, rfl, -⟩ := O2.sv)
      | (refine step_append_row rfl (.tmp 18) (.tmp 21) rfl (P + 1) v n hd rfl (by exact R2.below ((Below.refl _ _).alloc (Nat.le_refl _) _) (Nat.le_refl _)) w2.heap.size (.slice q2 c.length cp2) c rfl (by exact cell_alloc w2 _ _) (by exact O2.alloc _) (by exact O2.one) (by omega) (by simp; omega) ?_; intro v3 w3 vals h1 h3 g3; obtain ⟨vals3, hv3, hu3⟩ := h3; obtain ⟨g4, cap4, rfl⟩ := ownsRow_succ hv3; have hP3 : Boxed w3 P 47 v := (hP2.alloc _).kept g3 (row_ne_low h1 (Nat.lt_succ_self P)); have hcell3 := hP3.cell; have hfz3 := hP3.frozen; have hE := look_end (hk1.trans (K2.of (B2.alloc B2.size _) (by omega))) (hP2.alloc _) h1 (⟨vals3, hv3, hu3⟩ : RowS _ _ _ _ _) g3))
    all_goals
      have HE := Lib.hid hE
      clear hE hP3 hcell3 hfz3 h1 hv3 hu3 g3 hcell2 hfz2 hP2 R2 O2
      go_wp2
      exact bodyPost_ret (results_none rfl _ _ _) rfl ⟨rfl, HE.out⟩
  · have hp : payB m c = false := by simpa using hp
    rw [hp] at hn ⊢
    simp only [Bool.false_eq_true, if_false]
    go_enter Try.func94, Try.ntmps94
    go_wp2_with fail
    refine (chPay_any _ _ _ _ hb.sv hc).mono ?_
    rw [hp]
    rintro e w1 ⟨rfl, b1⟩
    have hr1 := hr.below b1 (Nat.le_refl _)
    have hP1 : Boxed w1 P 47 v := (b1.block P hlt).trans hP
    have HE := Lib.hid (look_none hP1 hr1 (K2.of b1 (by omega)))
    clear hb hr hP b1 hp hr1 hP1
    go_wp2_with fail
    exact bodyPost_ret (results_none rfl _ _ _) rfl ⟨rfl, HE.out⟩

set_option maxHeartbeats 8000000 in
set_option maxRecDepth 100000 in
theorem look1 (m : Int) (hm : 1 ≤ m ∧ m ≤ 63) (q : Nat) (hq : q + 1 ≤ 9)
    (ih : ∀ (c : List Int) (vb v : Value) (P n : Nat) (hd : List Int) (w : World), CutsOk m c → c.length + q ≤ 9 → Ow w 0 vb c → Boxed w P 47 v → RowS w (P + 1) v n hd → n + (selM m c (freeAt c c.length) q).length ≤ 1048576 →
      Calls Try.prog 94 #[.int .i64 m, .int .i64 (q : Int), vb, .pointer (some ⟨P, 0, none⟩)] w fun e w' => e = .returned (.tuple #[]) ∧ Look w P n hd (selM m c (freeAt c c.length) q) w')
    (c : List Int) (vb v : Value) (P n : Nat) (hd : List Int) (w : World) (hc : CutsOk m c) (hl : c.length + (q + 1) ≤ 9) (hb : Ow w 0 vb c) (hP : Boxed w P 47 v) (hr : RowS w (P + 1) v n hd) (hn : n + (selM m c (freeAt c c.length) (q + 1)).length ≤ 1048576) :
    Calls Try.prog 94 #[.int .i64 m, .int .i64 ((q + 1 : Nat) : Int), vb, .pointer (some ⟨P, 0, none⟩)] w fun e w' => e = .returned (.tuple #[]) ∧ Look w P n hd (selM m c (freeAt c c.length) (q + 1)) w' := by
  have hfb := hc.free (Nat.le_refl _)
  obtain ⟨f, ef⟩ : ∃ f, freeAt c c.length = f := ⟨_, rfl⟩
  rw [ef] at hfb hn ⊢
  have EF := Lib.hid ef
  have HC := Lib.hid hc
  have HN := Lib.hid hn
  have hP0 := hP.lt
  have q0 : (((q + 1 : Nat) : Int) == 0) = false := by rw [beq_eq_false_iff_ne]; omega
  have ec : ((q + 1 : Nat) : Int) = (q : Int) + 1 := by omega
  have hat0 : selM m c f (q + 1) = selM m c f (q + 1) := rfl
  clear ef hn hat0
  rw [ec] at q0 ⊢
  clear ec
  have hs0 : Look w P n hd [] w := look_none hP hr (K2.refl _ _)
  by_cases hc0 : c = []
  · have hcl : c.length = 0 := by rw [hc0]; rfl
    have hf0 : f = 0 := by have := EF.out; rw [hc0] at this; simpa [freeAt] using this.symm
    have HF0 := Lib.hid hf0
    have hb2 := hb
    obtain ⟨p, cap, rfl, hx⟩ := hb2.sv
    clear hx hf0 hc0
    have hl0 : decide ((0 : Int) < (c.length : Int)) = false := by rw [decide_eq_false_iff_not]; omega
    have hl00 : decide (0 < c.length) = false := by rw [decide_eq_false_iff_not]; omega
    have HCL := Lib.hid hcl
    clear hcl hb2 hc
    go_enter Try.func94, Try.ntmps94
    go_wp2_with fail
    go_loopw [9] (fun a wr => ∃ (t : Int) (L : List (List Int)), f ≤ t ∧ t ≤ m + 1 ∧ a = .int .i64 t ∧ Look w P n hd L wr ∧ selM m c f (q + 1) = L ++ selM m c t (q + 1)) (fun a _ => (m + 1 - intOf a).toNat)
    case atStart => exact ⟨f, [], Int.le_refl _, by omega, by rw [HF0.out], hs0, by simp⟩
    case round =>
      obtain ⟨t, L, ht1, ht2, rfl, hL, hsel⟩ := hrel
      have hL0 := hL
      obtain ⟨v', hP', hr', hk'⟩ := hL
      have hb' := hb.k2 hk'
      have hPl := hP'.lt
      have HSEL := Lib.hid hsel
      have HN2 := HN.out
      rw [hsel] at HN2
      have HNN := Lib.hid HN2
      clear hsel HN2
      by_cases hle : t + ((q : Int) + 1) ≤ m
      · have hstep := selM_step (m := m) (f := t) (more := q) c (by omega)
        have HST := Lib.hid hstep
        obtain ⟨hcs, hfs⟩ := HC.out.snoc (a := t) (by rw [EF.out]; exact ht1) (by omega) (by omega)
        have HFS := Lib.hid hfs
        have HCS := Lib.hid hcs
        have hsrc := hb'.src
        have hnl : n + L.length + (selM m (c ++ [t]) (freeAt (c ++ [t]) (c ++ [t]).length) q).length ≤ 1048576 := by
          have := HNN.out
          rw [hstep] at this
          rw [hfs]
          simp only [List.length_append] at this
          omega
        have HNL := Lib.hid hnl
        clear hstep hfs hcs hnl hL0
        go_wp2_with fail
        refine (l1Own_any _ c _ hsrc (by omega)).mono ?_
        rintro e w1 ⟨u1, rfl, o1, b1⟩
        have z1 := b1.size
        clear hb' hsrc
        go_wp2_with (at_builtin; refine wpList_append_src rfl _ _ rfl wr.heap.size _ c rfl (o1.alloc _) _ [t] rfl (src_one _ _) (by simp only [List.length_cons, List.length_nil]; omega) (by simp; omega) ?_; intro v2 w2 h2 g2; have b2 := (b1.alloc z1 _).trans ((o1.alloc _).grown (by simp; omega) g2); clear o1 g2 b1)
        have hP2 : Boxed w2 P 47 v' := (b2.block P hPl).trans hP'
        have hr2 := hr'.below b2 (Nat.le_refl _)
        have hk2 : K2 P w w2 := hk'.trans (K2.of b2 (by omega))
        refine (ih (c ++ [t]) v2 v' P (n + L.length) (hdA n hd L) w2 HCS.out (by simp; omega) (h2.mono (Nat.zero_le _)) hP2 hr2 HNL.out).mono ?_
        rintro e w3 ⟨rfl, h3⟩
        rw [HFS.out] at h3
        have HL3 := Lib.hid (Look.go hk2 h3)
        clear h2 hP2 hr2 hk2 b2 hP' hr' hk' h3
        go_wp2_with fail
        go_roundw
        case rel => exact ⟨t + 1, _, by omega, by omega, rfl, HL3.out, by rw [HSEL.out, HST.out, List.append_assoc]⟩
        case measure => simp only [intOf]; omega
      · have hnone := selM_none (m := m) (f := t) (more := q) c (by omega)
        have HE := Lib.hid (show Look w P n hd (selM m c f (q + 1)) wr by rw [HSEL.out, hnone, List.append_nil]; exact hL0)
        clear hnone hL0 hP' hr' hk' hb'
        go_wp2
        go_end0
        exact ⟨rfl, HE.out⟩
  · have hcl : 0 < c.length := List.length_pos_iff.2 hc0
    obtain ⟨k, hk⟩ : ∃ k, c.length = k + 1 := ⟨c.length - 1, by omega⟩
    have hf0 : f = c.getD k 0 + 1 := by have := EF.out; rw [hk] at this; exact this.symm
    have hxb := hc.2.2.1 k (by omega)
    have hb2 := hb
    obtain ⟨p, cap, rfl, hx⟩ := hb2.sv
    obtain ⟨b, off, rfl, hbl, hcells⟩ := hx hcl
    have hcell := hcells k (by omega)
    obtain ⟨x, ex⟩ : ∃ x, c.getD k 0 = x := ⟨_, rfl⟩
    rw [ex] at hcell hxb hf0
    have HF0 := Lib.hid hf0
    have hl0 : decide ((0 : Int) < (c.length : Int)) = true := by rw [decide_eq_true_eq]; omega
    have hl00 : decide (0 < c.length) = true := by rw [decide_eq_true_eq]; omega
    have eck : (c.length : Int) - 1 = (k : Int) := by omega
    have hki : (k : Int) < (c.length : Int) := by omega
    have hk0 : (0 : Int) ≤ (k : Int) := by omega
    have hc9 := hc.2.1
    have HK := Lib.hid hk
    clear ex hf0 hcells hx hb2 hc0 hc hk
    go_enter Try.func94, Try.ntmps94
    go_wp2_with fail
    go_loopw [9] (fun a wr => ∃ (t : Int) (L : List (List Int)), f ≤ t ∧ t ≤ m + 1 ∧ a = .int .i64 t ∧ Look w P n hd L wr ∧ selM m c f (q + 1) = L ++ selM m c t (q + 1)) (fun a _ => (m + 1 - intOf a).toNat)
    case atStart => exact ⟨f, [], Int.le_refl _, by omega, by rw [HF0.out], hs0, by simp⟩
    case round =>
      obtain ⟨t, L, ht1, ht2, rfl, hL, hsel⟩ := hrel
      have hL0 := hL
      obtain ⟨v', hP', hr', hk'⟩ := hL
      have hb' := hb.k2 hk'
      have hPl := hP'.lt
      have HSEL := Lib.hid hsel
      have HN2 := HN.out
      rw [hsel] at HN2
      have HNN := Lib.hid HN2
      clear hsel HN2
      by_cases hle : t + ((q : Int) + 1) ≤ m
      · have hstep := selM_step (m := m) (f := t) (more := q) c (by omega)
        have HST := Lib.hid hstep
        obtain ⟨hcs, hfs⟩ := HC.out.snoc (a := t) (by rw [EF.out]; exact ht1) (by omega) (by omega)
        have HFS := Lib.hid hfs
        have HCS := Lib.hid hcs
        have hsrc := hb'.src
        have hnl : n + L.length + (selM m (c ++ [t]) (freeAt (c ++ [t]) (c ++ [t]).length) q).length ≤ 1048576 := by
          have := HNN.out
          rw [hstep] at this
          rw [hfs]
          simp only [List.length_append] at this
          omega
        have HNL := Lib.hid hnl
        clear hstep hfs hcs hnl hL0
        go_wp2_with fail
        refine (l1Own_any _ c _ hsrc (by omega)).mono ?_
        rintro e w1 ⟨u1, rfl, o1, b1⟩
        have z1 := b1.size
        clear hb' hsrc
        go_wp2_with (at_builtin; refine wpList_append_src rfl _ _ rfl wr.heap.size _ c rfl (o1.alloc _) _ [t] rfl (src_one _ _) (by simp only [List.length_cons, List.length_nil]; omega) (by simp; omega) ?_; intro v2 w2 h2 g2; have b2 := (b1.alloc z1 _).trans ((o1.alloc _).grown (by simp; omega) g2); clear o1 g2 b1)
        have hP2 : Boxed w2 P 47 v' := (b2.block P hPl).trans hP'
        have hr2 := hr'.below b2 (Nat.le_refl _)
        have hk2 : K2 P w w2 := hk'.trans (K2.of b2 (by omega))
        refine (ih (c ++ [t]) v2 v' P (n + L.length) (hdA n hd L) w2 HCS.out (by simp; omega) (h2.mono (Nat.zero_le _)) hP2 hr2 HNL.out).mono ?_
        rintro e w3 ⟨rfl, h3⟩
        rw [HFS.out] at h3
        have HL3 := Lib.hid (Look.go hk2 h3)
        clear h2 hP2 hr2 hk2 b2 hP' hr' hk' h3
        go_wp2_with fail
        go_roundw
        case rel => exact ⟨t + 1, _, by omega, by omega, rfl, HL3.out, by rw [HSEL.out, HST.out, List.append_assoc]⟩
        case measure => simp only [intOf]; omega
      · have hnone := selM_none (m := m) (f := t) (more := q) c (by omega)
        have HE := Lib.hid (show Look w P n hd (selM m c f (q + 1)) wr by rw [HSEL.out, hnone, List.append_nil]; exact hL0)
        clear hnone hL0 hP' hr' hk' hb'
        go_wp2
        go_end0
        exact ⟨rfl, HE.out⟩

theorem chLook_any (m : Int) (hm : 1 ≤ m ∧ m ≤ 63) : ∀ (more : Nat) (c : List Int) (vb v : Value) (P n : Nat) (hd : List Int) (w : World), CutsOk m c → c.length + more ≤ 9 → Ow w 0 vb c → Boxed w P 47 v → RowS w (P + 1) v n hd → n + (selM m c (freeAt c c.length) more).length ≤ 1048576 →
      Calls Try.prog 94 #[.int .i64 m, .int .i64 (more : Int), vb, .pointer (some ⟨P, 0, none⟩)] w fun e w' => e = .returned (.tuple #[]) ∧ Look w P n hd (selM m c (freeAt c c.length) more) w' := by
  intro more
  induction more with
  | zero => intro c vb v P n hd w h1 _ h3 h4 h5 h6; exact look0 m hm c vb v P n hd w h1 h3 h4 h5 h6
  | succ q ih => intro c vb v P n hd w h1 h2 h3 h4 h5 h6; exact look1 m hm q (by omega) ih c vb v P n hd w h1 h2 h3 h4 h5 h6
end Go.Proofs.Ytnbbfpanidmpgaa
