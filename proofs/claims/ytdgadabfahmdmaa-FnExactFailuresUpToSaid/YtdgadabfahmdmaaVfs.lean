/-
  FailuresUpTo, FirstFailure and IsGreedy in the model, by their contracts. Condition: slices of at most 2^40 numbers.
-/
import Derived.Test.YtdgadabfahmdmaaVfm
namespace Go.Proofs.Ytdgadabfahmdmaa
open Go.RowKit

noncomputable def fuB (xs : List Int) (l : Int) : Bool := cnsB xs && inB l 0 2000
noncomputable def fuR (xs : List Int) (l : Int) : List Int := if fuB xs l = true then iL (flT (nL xs) (l.toNat + 1)) else []
theorem fuB_no {xs : List Int} {l : Int} (h : cnsB xs = false) : fuB xs l = false := by simp [fuB, h]
theorem fuB_out {xs : List Int} {l : Int} (h : inB l 0 2000 = false) : fuB xs l = false := by simp [fuB, h]
theorem fuR_no {xs : List Int} {l : Int} (h : fuB xs l = false) : fuR xs l = [] := by simp [fuR, h]
theorem fuB_yes {xs : List Int} {l : Int} (h : fuB xs l = true) : ∃ (cs : List Nat) (n : Nat), xs = iL cs ∧ Cn cs ∧ l = n ∧ n ≤ 2000 := by
  simp only [fuB, Bool.and_eq_true] at h
  obtain ⟨cs, h1, h2⟩ := cn_of h.1
  have := inB_iff.1 h.2
  exact ⟨cs, l.toNat, h1, h2, by omega, by omega⟩
theorem fuR_yes {cs : List Nat} {n : Nat} (h : fuB (iL cs) n = true) : fuR (iL cs) n = iL (flT cs (n + 1)) := by
  simp [fuR, h, nL_iL]
theorem fuR_len (xs : List Int) (l : Int) : (fuR xs l).length ≤ 1099511627776 := by
  unfold fuR
  split
  · rename_i h
    obtain ⟨cs, n, rfl, _, rfl, hn⟩ := fuB_yes h
    rw [iL_len]
    have := flT_len (nL (iL cs)) ((n : Int).toNat + 1)
    omega
  · simp
noncomputable def ffB (xs : List Int) : Bool := cnsB xs && (ffO (nL xs)).isSome
noncomputable def ffR (xs : List Int) : Int := if ffB xs = true then (((ffO (nL xs)).getD 0 : Nat) : Int) else 0
theorem ffB_no {xs : List Int} (h : cnsB xs = false) : ffB xs = false := by simp [ffB, h]
theorem ffR_no {xs : List Int} (h : ffB xs = false) : ffR xs = 0 := by simp [ffR, h]
theorem ffB_of {cs : List Nat} (h : Cn cs) : ffB (iL cs) = (ffO cs).isSome := by simp [ffB, cns_of h, nL_iL]
theorem ffR_of {cs : List Nat} (h : Cn cs) {a : Nat} (ha : ffO cs = some a) : ffR (iL cs) = a := by
  simp [ffR, ffB_of h, ha, nL_iL]
noncomputable def igA (xs : List Int) : Bool := cnsB xs && !(ffB xs)
theorem igA_no {xs : List Int} (h : cnsB xs = false) : igA xs = false := by simp [igA, h]
theorem igA_yes {xs : List Int} (h : cnsB xs = true) : igA xs = !(ffB xs) := by simp [igA, h]
theorem ret_bb {a b c d : Bool} (h : a = b) (g : c = d) : Ending.returned (.tuple #[.bool a, .bool c]) = .returned (.tuple #[.bool b, .bool d]) := by rw [h, g]
theorem flT_iL (cs : List Nat) (k : Nat) (h : decide (Fails cs k) = true) : iL (flT cs (k + 1)) = iL (flT cs k) ++ [(k : Int)] := by
  rw [flT_succ, if_pos (by simpa using h)]; simp [iL]
theorem flT_iL' (cs : List Nat) (k : Nat) (h : decide (Fails cs k) = false) : iL (flT cs (k + 1)) = iL (flT cs k) := by
  rw [flT_succ, if_neg (by simpa using h)]; simp
theorem flT_ilen (cs : List Nat) (k : Nat) : (iL (flT cs k)).length ≤ k := by rw [iL_len]; exact flT_len cs k

set_option maxHeartbeats 4000000 in
set_option maxRecDepth 20000 in
theorem specFailuresUpTo_any (v : Value) (xs : List Int) (a : Int) (w : World) (h : Sp w v xs) (hl : xs.length ≤ 1099511627776) :
    Calls Try.prog 38 #[v, .int .i64 a] w fun e w' => ∃ u, e = .returned (.tuple #[u, .bool (fuB xs a)]) ∧ Ow w' w.heap.size u (fuR xs a) ∧ Below w.heap.size w w' := by
  have CG := Lib.hid (cnGood_any v xs w h.sv hl)
  by_cases hc : cnsB xs = true
  · by_cases ha : inB a 0 2000 = true
    · have hq : fuB xs a = true := by simp [fuB, hc, ha]
      have HB := Lib.hid hq
      obtain ⟨cs, m, rfl, hc', rfl, hn⟩ := fuB_yes hq
      have HR := Lib.hid (fuR_yes hq)
      have CF := fun w' (hb : Below w.heap.size w w') => Lib.hid (cnFails_any v cs m w' (h.below hb (Nat.le_refl _)) hc' (by omega))
      rw [hc] at CG
      have LI := fun w => Lib.hid (l1In_any (m : Int) 0 2000 w)
      rw [ha] at LI
      clear h hl hc ha hq hc'
      go_enter Try.func38, Try.ntmps38
      go_wp2_with (first | (go_at_call 52; refine CG.out.mono ?_; rintro e w1 ⟨rfl, b1⟩) | (go_at_call 70; refine (LI _).out.mono ?_; rintro e w' ⟨rfl, rfl⟩))
      refine (CF w1 b1).out.mono ?_
      rintro e w2 ⟨rfl, hbs, b2⟩
      have hz1 := b1.size
      have hz2 : w1.heap.size < w2.heap.size := hbs.1
      have b2 := nxt b1 b2
      have hz3 := b2.size
      clear CF
      go_wp2
      go_loopw [6, 21] (fun o q wr => ∃ k : Nat, k ≤ m + 1 ∧ q = .int .i64 (k : Int) ∧ Ow wr w2.heap.size o (iL (flT cs k)) ∧ Bs wr w1.heap.size (m + 1) (fun a => decide (Fails cs a)) ∧ Below w.heap.size w wr ∧ w2.heap.size ≤ wr.heap.size) (fun _ q _ => m + 1 - (intOf q).toNat)
      case atStart => exact ⟨0, Nat.zero_le _, rfl, ow_nil _ _, hbs, b2, Nat.le_refl _⟩
      case round =>
        clear hbs b2
        obtain ⟨k, hk, rfl, ho, hbs, hb, hg⟩ := hrel
        have hz := hb.size
        by_cases hlt : k < m + 1
        · have hcell : wr.cell? ⟨w1.heap.size, k, none⟩ = some (.bool (decide (Fails cs k))) := hbs.2 k hlt
          have j0 : (0 : Int) ≤ k := by omega
          have j1 : (k : Int) < (m : Int) + 1 := by omega
          have hln := flT_ilen cs k
          cases hF : decide (Fails cs k) with
          | true =>
            rw [hF] at hcell
            have E := Lib.hid (flT_iL cs k hF)
            obtain ⟨L, eL⟩ : ∃ L, iL (flT cs k) = L := ⟨_, rfl⟩
            rw [eL] at ho E hln
            clear hF eL
            go_wp2_with (at_builtin; refine wpList_append_src rfl _ _ rfl w2.heap.size _ L rfl (ho.alloc _) _ [(k : Int)] rfl (src_one _ _) (by simp only [List.length_cons, List.length_nil]; omega) (by simp; omega) ?_; intro v7 w7 h7 g7)
            have hoA := ho.alloc (.cells #[.int .i64 (k : Int)] 3)
            have b8 := ((Below.refl w2.heap.size wr).alloc hg (.cells #[.int .i64 (k : Int)] 3)).trans (hoA.grown (by simp; omega) g7)
            have b7 := hb.trans (b8.mono hz3)
            have hbs7 : Bs w7 w1.heap.size (m + 1) (fun a => decide (Fails cs a)) := ⟨Nat.lt_of_lt_of_le hbs.1 b8.size, fun j hj => (b8.cell (p := ⟨w1.heap.size, j, none⟩) hz2).trans (hbs.2 j hj)⟩
            have hg7 := Nat.le_trans hg b8.size
            have ho7 : Ow w7 w2.heap.size v7 (iL (flT cs (k + 1))) := by rw [E.out]; exact h7
            clear h7 ho hb hbs hg g7 E hoA b8
            go_wp2
            go_roundw
            case rel => exact ⟨k + 1, by omega, by go_num, ho7, hbs7, b7, hg7⟩
            case measure => simp only [intOf]; omega
          | false =>
            rw [hF] at hcell
            have E := Lib.hid (flT_iL' cs k hF)
            clear hF
            go_wp2
            go_roundw
            case rel => exact ⟨k + 1, by omega, by go_num, by rw [E.out]; exact ho, hbs, hb, hg⟩
            case measure => simp only [intOf]; omega
        · have hke : k = m + 1 := by omega
          subst hke
          go_wp2
          go_ret2
          exact ⟨_, ret_lb rfl HB.out.symm, by rw [HR.out]; exact ho.mono hz3, hb⟩
    · have ha : inB a 0 2000 = false := by simpa using ha
      have HB := Lib.hid (fuB_out (xs := xs) ha)
      have HR := Lib.hid (fuR_no (fuB_out (xs := xs) ha))
      have LI := fun w => Lib.hid (l1In_any a 0 2000 w)
      rw [hc] at CG
      rw [ha] at LI
      clear h hl hc ha
      go_enter Try.func38, Try.ntmps38
      go_wp2_with (first | (go_at_call 52; refine CG.out.mono ?_; rintro e w1 ⟨rfl, b1⟩) | (go_at_call 70; refine (LI _).out.mono ?_; rintro e w' ⟨rfl, rfl⟩))
      go_ret2
      exact ⟨_, ret_lb rfl HB.out.symm, by rw [HR.out]; exact ow_nil _ _, b1⟩
  · have hc : cnsB xs = false := by simpa using hc
    have HB := Lib.hid (fuB_no (l := a) hc)
    have HR := Lib.hid (fuR_no (fuB_no (l := a) hc))
    rw [hc] at CG
    clear h hl hc
    go_enter Try.func38, Try.ntmps38
    go_wp2_with (go_at_call 52; refine CG.out.mono ?_; rintro e w1 ⟨rfl, b1⟩)
    go_ret2
    exact ⟨_, ret_lb rfl HB.out.symm, by rw [HR.out]; exact ow_nil _ _, b1⟩

set_option maxHeartbeats 2000000 in
theorem cnBound_any (v : Value) (cs : List Nat) (w : World) (h : Sp w v (iL cs)) (hc : Cn cs) :
    Calls Try.prog 67 #[v] w fun e w' => e = .returned (.int .i64 (bnd cs : Int)) ∧ w = w' := by
  have hlen := iL_len cs
  have h1 := hc.one
  have h8 := hc.eight
  have hlb := hc.last_bd
  have hla := lastC_at cs hc.ne
  obtain ⟨b, off, cap, rfl, _, _, hbl, hcl⟩ := h
  rw [hlen] at hcl ⊢
  have HX : ∀ j, j < cs.length → w.cell? ⟨b, off + j, none⟩ = some (.int .i64 ((cs.getD j 0 : Nat) : Int)) := fun j hj => by rw [← iL_at]; exact hcl j hj
  by_cases e : cs.length = 1
  · have c0 := HX 0 (by omega)
    rw [Nat.add_zero] at c0
    have HB : Hid (bnd cs = cs.getD 0 0) := Lib.hid (by unfold bnd; rw [if_pos e])
    have hd : ((cs.length : Int) == 1) = true := by rw [beq_iff_eq]; omega
    have j1 : (0 : Int) < cs.length := by omega
    obtain ⟨x, ex⟩ : ∃ x, cs.getD 0 0 = x := ⟨_, rfl⟩
    rw [ex] at c0 HB
    clear hcl HX hla e ex
    go_enter Try.func67, Try.ntmps67
    go_wp2
    go_ret
    exact ⟨ret_int (by rw [HB.out]), rfl⟩
  · have c1 := HX (cs.length - 1) (by omega)
    have c2 := HX (cs.length - 2) (by omega)
    rw [← hla] at c1
    have hb2 := hc.bd (cs.length - 2) (by omega)
    have HB : Hid (bnd cs = max (lastC cs * cs.getD (cs.length - 2) 0) (2 * lastC cs)) := Lib.hid (by unfold bnd; rw [if_neg e])
    have hd : ((cs.length : Int) == 1) = false := by rw [beq_eq_false_iff_ne]; omega
    obtain ⟨x, ex⟩ : ∃ x, lastC cs = x := ⟨_, rfl⟩
    obtain ⟨y, ey⟩ : ∃ y, cs.getD (cs.length - 2) 0 = y := ⟨_, rfl⟩
    rw [ex] at c1 HB hlb
    rw [ey] at c2 HB hb2
    have hxy : x * y ≤ 1000 * 1000 := Nat.mul_le_mul hlb.2 hb2.2
    have hw1 : IntKind.i64.wrap ((x : Int) * y) = ((x * y : Nat) : Int) := by rw [← Int.natCast_mul]; exact IntWalk.i64_in _ (by omega)
    have hw2 : IntKind.i64.wrap (2 * (x : Int)) = ((2 * x : Nat) : Int) := (IntWalk.i64_in _ (by omega)).trans (by omega)
    have hw3 : IntKind.i64.wrap ((cs.length : Int) - 1) = ((cs.length - 1 : Nat) : Int) := (IntWalk.i64_in _ (by omega)).trans (by omega)
    have hw4 : IntKind.i64.wrap ((cs.length : Int) - 2) = ((cs.length - 2 : Nat) : Int) := (IntWalk.i64_in _ (by omega)).trans (by omega)
    obtain ⟨p, ep⟩ : ∃ p, cs.length - 1 = p := ⟨_, rfl⟩
    obtain ⟨q, eq⟩ : ∃ q, cs.length - 2 = q := ⟨_, rfl⟩
    rw [ep] at c1 hw3
    rw [eq] at c2 hw4
    have j1 : (p : Int) < cs.length := by omega
    have j2 : (q : Int) < cs.length := by omega
    have j3 : (0 : Int) ≤ p := by omega
    have j4 : (0 : Int) ≤ q := by omega
    have HM : Hid (max ((x * y : Nat) : Int) ((2 * x : Nat) : Int) = (bnd cs : Int)) := Lib.hid (by rw [HB.out]; omega)
    clear hcl HX hla e ex ey ep eq hxy
    go_enter Try.func67, Try.ntmps67
    go_wp2_with (go_at_call 88; refine (most_any _ _ _).mono ?_; rintro e w' ⟨rfl, rfl⟩)
    go_ret
    exact ⟨ret_int HM.out, rfl⟩

set_option maxHeartbeats 4000000 in
theorem specFirstFailure_any (v : Value) (xs : List Int) (w : World) (h : Sp w v xs) (hl : xs.length ≤ 1099511627776) :
    Calls Try.prog 34 #[v] w fun e w' => e = .returned (.tuple #[.int .i64 (ffR xs), .bool (ffB xs)]) ∧ Below w.heap.size w w' := by
  have CG := Lib.hid (cnGood_any v xs w h.sv hl)
  by_cases hc : cnsB xs = true
  · obtain ⟨cs, rfl, hc'⟩ := cn_of hc
    have CB := fun w' (hb : Below w.heap.size w w') => Lib.hid (cnBound_any v cs w' (h.below hb (Nat.le_refl _)) hc')
    have CF := fun w' (hb : Below w.heap.size w w') => Lib.hid (cnFails_any v cs (bnd cs) w' (h.below hb (Nat.le_refl _)) hc' (by have := bnd_le hc'; omega))
    have HY := Lib.hid (fun (a : Nat) (h1 : Fails cs a) (h2 : ∀ b, b < a → ¬ Fails cs b) => ff_some hc' h1 h2)
    have HN := Lib.hid (fun (h1 : ∀ b, b < bnd cs + 1 → ¬ Fails cs b) => ff_bound hc' h1)
    have HB := Lib.hid (ffB_of hc')
    have HR := Lib.hid (fun (a : Nat) (h : ffO cs = some a) => ffR_of hc' h)
    have HZ := Lib.hid (fun (h : ffB (iL cs) = false) => ffR_no h)
    have hbl := bnd_le hc'
    rw [hc] at CG
    clear h hl hc hc'
    obtain ⟨m, em⟩ : ∃ m, bnd cs = m := ⟨_, rfl⟩
    rw [em] at CB CF HN hbl
    clear em
    go_enter Try.func34, Try.ntmps34
    go_wp2_with fail
    refine CG.out.mono ?_
    rintro e w1 ⟨rfl, b1⟩
    have C1 := CF w1 b1
    go_wp2_with fail
    refine (CB w1 b1).out.mono ?_
    rintro e w1' ⟨rfl, rfl⟩
    go_wp2_with fail
    refine C1.out.mono ?_
    rintro e w2 ⟨rfl, hbs, b2⟩
    have b2 := nxt b1 b2
    clear CB CF C1
    go_wp2
    go_loop [14] (fun q => ∃ k : Nat, k ≤ m + 1 ∧ q = .int .i64 (k : Int) ∧ Hid (∀ b, b < k → ¬ Fails cs b)) (fun q => m + 1 - (intOf q).toNat)
    case atStart => exact ⟨0, Nat.zero_le _, rfl, Lib.hid (fun b hb => by omega)⟩
    case round =>
      obtain ⟨k, hk, rfl, HF⟩ := hrel
      by_cases hlt : k < m + 1
      · have hcell : w2.cell? ⟨w1.heap.size, k, none⟩ = some (.bool (decide (Fails cs k))) := hbs.2 k hlt
        have j0 : (0 : Int) ≤ k := by omega
        have j1 : (k : Int) < (m : Int) + 1 := by omega
        by_cases hf : Fails cs k
        · have e1 := HY.out k hf HF.out
          have R1 := Lib.hid (HR.out k e1)
          have B1 : Hid (ffB (iL cs) = true) := Lib.hid (by rw [HB.out, e1]; rfl)
          rw [decide_eq_true hf] at hcell
          clear hf e1
          go_wp2
          go_ret2
          exact ⟨ret_ib R1.out.symm B1.out.symm, b2⟩
        · rw [decide_eq_false hf] at hcell
          have HF2 : Hid (∀ b, b < k + 1 → ¬ Fails cs b) := Lib.hid (fun b hb => by
            by_cases e : b = k
            · subst e; exact hf
            · exact HF.out b (by omega))
          clear hf
          go_wp2
          go_round
          case rel => exact ⟨k + 1, by omega, by go_num, HF2⟩
          case measure => simp [intOf]; omega
      · have hke : k = m + 1 := by omega
        subst hke
        have B1 : Hid (ffB (iL cs) = false) := Lib.hid (by rw [HB.out, HN.out HF.out]; rfl)
        have R1 := Lib.hid (HZ.out B1.out)
        go_wp2
        go_ret2
        exact ⟨ret_ib R1.out.symm B1.out.symm, b2⟩
  · have hc : cnsB xs = false := by simpa using hc
    have HB := Lib.hid (ffB_no hc)
    have HR := Lib.hid (ffR_no (ffB_no hc))
    rw [hc] at CG
    clear h hl hc
    go_enter Try.func34, Try.ntmps34
    go_wp2_with fail
    refine CG.out.mono ?_
    rintro e w1 ⟨rfl, b1⟩
    go_wp2_with fail
    go_ret2
    exact ⟨ret_ib HR.out.symm HB.out.symm, b1⟩

theorem specIsGreedy_any (v : Value) (xs : List Int) (w : World) (h : Sp w v xs) (hl : xs.length ≤ 1099511627776) :
    Calls Try.prog 36 #[v] w fun e w' => e = .returned (.tuple #[.bool (igA xs), .bool (cnsB xs)]) ∧ Below w.heap.size w w' := by
  have CG := Lib.hid (cnGood_any v xs w h.sv hl)
  by_cases hc : cnsB xs = true
  · have FF := fun w' (hb : Below w.heap.size w w') => Lib.hid (specFirstFailure_any v xs w' (h.below hb (Nat.le_refl _)) hl)
    have HI := Lib.hid (igA_yes hc)
    rw [hc] at CG ⊢
    clear h hl hc
    go_enter Try.func36, Try.ntmps36
    go_wp2_with fail
    refine CG.out.mono ?_
    rintro e w1 ⟨rfl, b1⟩
    go_wp2_with fail
    refine (FF w1 b1).out.mono ?_
    rintro e w2 ⟨rfl, b2⟩
    go_wp2_with fail
    go_ret2
    exact ⟨ret_bb HI.out.symm rfl, nxt b1 b2⟩
  · have hc : cnsB xs = false := by simpa using hc
    have HI := Lib.hid (igA_no hc)
    rw [hc] at CG ⊢
    clear h hl hc
    go_enter Try.func36, Try.ntmps36
    go_wp2_with fail
    refine CG.out.mono ?_
    rintro e w1 ⟨rfl, b1⟩
    go_wp2_with fail
    go_ret2
    exact ⟨ret_bb HI.out.symm rfl, b1⟩
end Go.Proofs.Ytdgadabfahmdmaa
