/-
  CountChange in the model and in the program, by their contracts. Condition: slices of at most 2^40 numbers.
-/
import Derived.Test.YtdgadabfahmdmaaVfc
namespace Go.Proofs.Ytdgadabfahmdmaa
open Go.RowKit

/-- The model's table behind some kinds. -/
def wmF (l : List Nat) : Nat → Nat := l.foldl (fun f c => pass c (fun _ x y => min (x + y) capW) f) (wy [])
theorem wmF_snoc (l : List Nat) (c : Nat) : wmF (l ++ [c]) = pass c (fun _ x y => min (x + y) capW) (wmF l) := by simp [wmF]
theorem wmF_eq {cs : List Nat} (hp : Pos cs) (a : Nat) : wmF cs a = min (wy cs a) capW := by
  have gen : ∀ (l : List Nat) (f g : Nat → Nat), Pos l → (∀ a, f a = min (g a) capW) → ∀ a, l.foldl (fun f c => pass c (fun _ x y => min (x + y) capW) f) f a = min (l.foldl (fun f c => pass c (fun _ x y => x + y) f) g a) capW := by
    intro l
    induction l with
    | nil => intro f g _ h a; exact h a
    | cons c l ih =>
      intro f g hp h a
      simp only [List.foldl_cons]
      refine ih _ _ hp.tail (fun a => ?_) a
      refine pass_rel (fun _ (x y : Nat) => x = min y capW) hp.head (fun a x y x' y' _ hx hy => ?_) a fun j _ => h j
      rw [hx, hy]; omega
  have h := gen cs (wy []) (wy []) hp (fun a => by show (if a = 0 then 1 else 0) = min (if a = 0 then 1 else 0) capW; unfold capW; split <;> omega) a
  rw [wy_foldl cs hp, wy_foldr] at h
  exact h
theorem wmF_bd (l : List Nat) : ∀ a, wmF l a ≤ capW := by
  have gen : ∀ (l : List Nat) (f : Nat → Nat), (∀ a, f a ≤ capW) → ∀ a, l.foldl (fun f c => pass c (fun _ x y => min (x + y) capW) f) f a ≤ capW := by
    intro l
    induction l with
    | nil => intro f h a; exact h a
    | cons c l ih =>
      intro f h a
      simp only [List.foldl_cons]
      refine ih _ (fun a => ?_) a
      rw [pass]
      split
      · exact Nat.min_le_right _ _
      · exact h a
  exact gen l (wy []) (fun a => by show (if a = 0 then 1 else 0) ≤ capW; unfold capW; split <;> omega)
theorem pass_bd {c : Nat} {f : Nat → Nat} (h : ∀ a, f a ≤ capW) (a : Nat) : pass c (fun _ x y => min (x + y) capW) f a ≤ capW := by
  rw [pass]
  split
  · exact Nat.min_le_right _ _
  · exact h a
/-- The table's cell j while a kind is put in: below q it is told anew. -/
def wmTo (c : Nat) (f : Nat → Nat) (q j : Nat) : Nat := if j < q then pass c (fun _ x y => min (x + y) capW) f j else f j

theorem made1_zero (n i : Nat) (hi : i < n) : (madeCells #[Value.int .i64 0] n)[i]? = some (.int .i64 0) := by
  have h : i % 1 = 0 := Nat.mod_one i
  simp [madeCells, hi, h]
theorem size_madeCells1 (n : Nat) : (madeCells #[Value.int .i64 0] n).size = n := size_madeCells _ _

noncomputable def ccB (xs : List Int) (a : Int) : Bool := askC xs a && decide (wy (nL xs) a.toNat ≤ 1000000000000000)
noncomputable def ccR (xs : List Int) (a : Int) : Int := if ccB xs a = true then (wy (nL xs) a.toNat : Int) else 0
theorem ccB_no {xs : List Int} {a : Int} (h : askC xs a = false) : ccB xs a = false := by simp [ccB, h]
theorem ccR_no {xs : List Int} {a : Int} (h : ccB xs a = false) : ccR xs a = 0 := by simp [ccR, h]
theorem ccB_of {cs : List Nat} {n : Nat} (h : Cn cs) (hn : n ≤ 20000) : ccB (iL cs) n = decide (wy cs n ≤ 1000000000000000) := by
  simp [ccB, askC_of h hn, nL_iL]
theorem ccB_yes {cs : List Nat} {n : Nat} (h : Cn cs) (hn : n ≤ 20000) (hf : min (wy cs n) capW ≤ 1000000000000000) : ccB (iL cs) n = true := by
  rw [ccB_of h hn, decide_eq_true_eq]; unfold capW at hf; omega
theorem ccB_none {cs : List Nat} {n : Nat} (h : Cn cs) (hn : n ≤ 20000) (hf : ¬ min (wy cs n) capW ≤ 1000000000000000) : ccB (iL cs) n = false := by
  rw [ccB_of h hn, decide_eq_false_iff_not]; unfold capW at hf; omega
theorem ccR_yes {cs : List Nat} {n : Nat} (h : Cn cs) (hn : n ≤ 20000) (hf : min (wy cs n) capW ≤ 1000000000000000) : ccR (iL cs) n = (min (wy cs n) capW : Nat) := by
  simp only [ccR, ccB_yes h hn hf, nL_iL, if_true, Int.toNat_natCast]
  unfold capW at *; omega

set_option maxHeartbeats 4000000 in
set_option maxRecDepth 20000 in
theorem specCountChange_any (v : Value) (xs : List Int) (a : Int) (w : World) (h : Sp w v xs) (hl : xs.length ≤ 1099511627776) :
    Calls Try.prog 32 #[v, .int .i64 a] w fun e w' => e = .returned (.tuple #[.int .i64 (ccR xs a), .bool (ccB xs a)]) ∧ Below w.heap.size w w' := by
  by_cases hq : askC xs a = true
  · obtain ⟨cs, m, rfl, hc, rfl, hn⟩ := askC_yes hq
    have CA := Lib.hid (cnAsked_any v (iL cs) m w h.sv hl)
    rw [hq] at CA
    have B0 := Lib.hid (fun hf => ccB_none hc hn hf)
    have R0 := Lib.hid (fun hf => ccR_no (ccB_none hc hn hf))
    have B1 := Lib.hid (fun hf => ccB_yes hc hn hf)
    have R1 := Lib.hid (fun hf => ccR_yes hc hn hf)
    have HP := Lib.hid hc.pos
    have HM := Lib.hid hc.mem
    have h8 := hc.eight
    have hlen := iL_len cs
    have hmk := run_make_row' (P := Try.prog) 22 3 (.int .i64 0) 8 Try.underlying22 Try.infoI rfl .i64 .i64 (m + 1) (by omega) (by omega)
    rw [Int.natCast_succ] at hmk
    obtain ⟨b, off, cap, rfl, _, _, hbl, hcl⟩ := h
    rw [hlen] at hcl CA ⊢
    have HX : Hid (∀ j, j < cs.length → w.cell? ⟨b, off + j, none⟩ = some (.int .i64 ((cs.getD j 0 : Nat) : Int))) := Lib.hid (fun j hj => by rw [← iL_at]; exact hcl j hj)
    have hnn : (0 : Int) ≤ m := by omega
    clear hcl hl hc hq hlen
    go_enter Try.func32, Try.ntmps32
    go_wp2_with fail
    refine CA.out.mono ?_
    rintro e w1 ⟨rfl, b1⟩
    have hz1 := b1.size
    have hm0 := made1_zero (m + 1) 0 (by omega)
    go_wp2
    go_loopw [21] (fun i wr => ∃ k : Nat, k ≤ cs.length ∧ i = .int .i64 k ∧ wr.rowIs w1.heap.size 3 (m + 1) (fun j => .int .i64 (wmF (cs.take k) j : Nat)) ∧ Below w.heap.size w wr) (fun i _ => cs.length - (intOf i).toNat)
    case atStart =>
      refine ⟨0, Nat.zero_le _, rfl, ⟨_, heap_alloc_new w1 _, by simp [size_madeCells], fun j hj => ?_⟩, b1.alloc hz1 _⟩
      have z0 := made1_zero (m + 1) j hj
      have hsz : (madeCells #[Value.int .i64 0] (m + 1)).size = m + 1 := size_madeCells1 _
      show _ = some (Value.int .i64 ((if j = 0 then 1 else 0 : Nat) : Int))
      by_cases e : j = 0
      · subst e; simp [hsz]
      · rw [Array.getElem?_setIfInBounds, if_neg (by omega), z0, if_neg e]; rfl
    case round =>
      obtain ⟨k, hk, rfl, hrow, hb⟩ := hrel
      have hz := hb.size
      by_cases hkl : k < cs.length
      · have hcell := (hb.cell (p := ⟨b, off + k, none⟩) hbl).trans (HX.out k hkl)
        have hq1 := HP.out _ (at_mem hkl)
        have hq2 := (HM.out _ (at_mem hkl)).2
        have TS := take_snocN hkl
        obtain ⟨c, ec⟩ : ∃ c, cs.getD k 0 = c := ⟨_, rfl⟩
        rw [ec] at hcell hq1 hq2 TS
        have TS := Lib.hid (show wmF (cs.take (k + 1)) = pass c (fun _ x y => min (x + y) capW) (wmF (cs.take k)) by rw [TS, wmF_snoc])
        have BD := wmF_bd (cs.take k)
        obtain ⟨f, ef⟩ : ∃ f, wmF (cs.take k) = f := ⟨_, rfl⟩
        rw [ef] at TS BD hrow
        have BD := Lib.hid BD
        have hki0 : (0 : Int) ≤ k := by omega
        have hki1 : (k : Int) < cs.length := by omega
        clear ec ef hmk hm0
        go_wp2
        go_loopw [9] (fun i wr => ∃ q : Nat, c ≤ q ∧ (q ≤ c ∨ q ≤ m + 1) ∧ i = .int .i64 q ∧ wr.rowIs w1.heap.size 3 (m + 1) (fun j => .int .i64 (wmTo c f q j : Nat)) ∧ Below w.heap.size w wr) (fun i _ => m + 1 - (intOf i).toNat)
        case atStart =>
          exact ⟨c, Nat.le_refl _, .inl (Nat.le_refl _), rfl, hrow.congr (fun j hj => by
            unfold wmTo
            split
            · rename_i h; rw [pass_low h]
            · rfl), hb⟩
        case round =>
          obtain ⟨q, hq3, hq4, rfl, hrow, hb⟩ := hrel
          by_cases hqm : q ≤ m
          · have PH := Lib.hid (pass_high (s := fun _ x y => min (x + y) capW) (f := f) hq1 hq3)
            have c1 := hrow.cell (i := q) (by omega)
            have c2 := hrow.cell (i := q - c) (by omega)
            have e1 : wmTo c f q q = f q := by simp [wmTo]
            have e2 : wmTo c f q (q - c) = pass c (fun _ x y => min (x + y) capW) f (q - c) := by unfold wmTo; rw [if_pos (by omega)]
            rw [e1] at c1
            rw [e2] at c2
            have f1 := hrow.frozen q
            have bd1 := BD.out q
            have bd2 := pass_bd (c := c) BD.out (q - c)
            obtain ⟨x, ex⟩ : ∃ x, f q = x := ⟨_, rfl⟩
            obtain ⟨y, ey⟩ : ∃ y, pass c (fun _ x y => min (x + y) capW) f (q - c) = y := ⟨_, rfl⟩
            rw [ex] at c1 bd1 PH
            rw [ey] at c2 bd2 PH
            unfold capW at bd1 bd2
            have j0 : (0 : Int) ≤ (q : Int) - c := by omega
            have j1 : (q : Int) - c < (m : Int) + 1 := by omega
            have j2 : ((q : Int) - c).toNat = q - c := by omega
            have j3 : (q : Int) < (m : Int) + 1 := by omega
            have j4 : (0 : Int) ≤ q := by omega
            have hw1 : IntKind.i64.wrap ((x : Int) + y) = (x : Int) + y := IntWalk.i64_in _ (by omega)
            have hw2 : IntKind.i64.wrap ((q : Int) - c) = (q : Int) - c := IntWalk.i64_in _ (by omega)
            have LE := fun w => Lib.hid (least_any ((x : Int) + y) 1000000000000001 w)
            have MM : Hid (min ((x : Int) + y) 1000000000000001 = (min (x + y) capW : Nat)) := Lib.hid (by unfold capW; omega)
            clear ex ey e1 e2
            go_wp2
            go_region_with (go_at_call 65; refine ((LE _).out).mono ?_; rintro e w' ⟨rfl, rfl⟩)
            all_goals
              go_wp2
              go_roundw
              case rel =>
                refine ⟨q + 1, by omega, .inr (by omega), by go_num, (hrow.set q _).congr (fun j _ => ?_), (below_drewN hb _).setCell hz1 _⟩
                unfold wmTo
                by_cases e : j = q
                · subst e; rw [if_pos rfl, if_pos (by omega), PH.out, MM.out]
                · rw [if_neg e]
                  by_cases h2 : j < q
                  · rw [if_pos h2, if_pos (by omega)]
                  · rw [if_neg h2, if_neg (by omega)]
              case measure => simp only [intOf]; omega
          · go_wp2
            go_roundw
            case rel =>
              refine ⟨k + 1, by omega, by go_num, hrow.congr (fun j hj => ?_), hb⟩
              rw [TS.out]
              unfold wmTo
              by_cases h2 : j < q
              · rw [if_pos h2]
              · rw [if_neg h2, pass_low (by omega)]
            case measure => simp only [intOf]; omega
      · have hke : k = cs.length := by omega
        have hcell := hrow.cell (i := m) (by omega)
        rw [hke, List.take_length, wmF_eq HP.out] at hcell
        have j3 : (m : Int) < (m : Int) + 1 := by omega
        clear hmk hm0
        by_cases hf : min (wy cs m) capW ≤ 1000000000000000
        · have HB := Lib.hid (B1.out hf)
          have HR := Lib.hid (R1.out hf)
          obtain ⟨x, ex⟩ : ∃ x, min (wy cs m) capW = x := ⟨_, rfl⟩
          rw [ex] at hcell hf HR
          have hd : ¬ (1000000000000000 : Int) < x := by omega
          clear ex
          go_wp2
          go_ret2
          exact ⟨ret_ib HR.out.symm HB.out.symm, hb⟩
        · have HB := Lib.hid (B0.out hf)
          have HR := Lib.hid (R0.out hf)
          obtain ⟨x, ex⟩ : ∃ x, min (wy cs m) capW = x := ⟨_, rfl⟩
          rw [ex] at hcell hf
          have hd : (1000000000000000 : Int) < x := by omega
          clear ex
          go_wp2
          go_ret2
          exact ⟨ret_ib HR.out.symm HB.out.symm, hb⟩
  · have hq : askC xs a = false := by simpa using hq
    have CA := Lib.hid (cnAsked_any v xs a w h.sv hl)
    rw [hq] at CA
    have HB := Lib.hid (ccB_no hq)
    have HR := Lib.hid (ccR_no (ccB_no hq))
    go_enter Try.func32, Try.ntmps32
    go_wp2_with fail
    refine CA.out.mono ?_
    rintro e w1 ⟨rfl, b1⟩
    go_wp2_with fail
    go_ret2
    exact ⟨ret_ib HR.out.symm HB.out.symm, b1⟩

set_option maxHeartbeats 4000000 in
theorem implCountChange_any (v : Value) (xs : List Int) (a : Int) (w : World) (h : Sp w v xs) (hl : xs.length ≤ 1099511627776) :
    Calls Try.prog 33 #[v, .int .i64 a] w fun e w' => e = .returned (.tuple #[.int .i64 (ccR xs a), .bool (ccB xs a)]) ∧ Below w.heap.size w w' := by
  have AC := Lib.hid (areCoins_any v xs w h.sv hl)
  have IA := Lib.hid (isAmount_any a w)
  by_cases hc : cnsB xs = true
  · by_cases ha : amB a = true
    · have hq : askC xs a = true := by simp [askC, hc, ha]
      obtain ⟨cs, n, rfl, hc', rfl, hn⟩ := askC_yes hq
      rw [hc] at AC
      rw [ha] at IA
      have B0 := Lib.hid (fun hf => ccB_none hc' hn hf)
      have R0 := Lib.hid (fun hf => ccR_no (ccB_none hc' hn hf))
      have B1 := Lib.hid (fun hf => ccB_yes hc' hn hf)
      have R1 := Lib.hid (fun hf => ccR_yes hc' hn hf)
      obtain ⟨b, off, cap, rfl, _⟩ := id h
      have TP := Lib.hid (tablePaid_any (some ⟨b, off, none⟩) cap cs n w h.sv hc'.pos hc'.eight (by omega) (fun c hcc => by have := hc'.mem c hcc; omega))
      have PW := pdT_wy cs 0 hc'.pos n
      have hnn : (0 : Int) ≤ n := by omega
      clear h hl hc ha hq hc'
      go_enter Try.func33, Try.ntmps33
      go_wp2_with (first | (go_at_call 20; refine AC.out.mono ?_; rintro e w' ⟨rfl, rfl⟩) | (go_at_call 55; refine IA.out.mono ?_; rintro e w' ⟨rfl, rfl⟩))
      refine TP.out.mono ?_
      rintro e w2 ⟨rfl, T, b2⟩
      obtain ⟨c1, c2, c3⟩ := tp_load T (j := n) (by omega) rfl
      rw [PW] at c1
      have i1 : (n : Int) < ((n + 1 : Nat) : Int) := by omega
      obtain ⟨x, ex⟩ : ∃ x, min (wy cs n) capW = x := ⟨_, rfl⟩
      rw [ex] at c1 B0 B1 R0 R1
      clear PW T c2 c3 ex
      by_cases hf : x ≤ 1000000000000000
      · have HB := Lib.hid (B1.out hf)
        have HR := Lib.hid (R1.out hf)
        have hd : ¬ (1000000000000000 : Int) < x := by omega
        go_wp2
        go_ret2
        exact ⟨ret_ib HR.out.symm HB.out.symm, b2⟩
      · have HB := Lib.hid (B0.out hf)
        have HR := Lib.hid (R0.out hf)
        have hd : (1000000000000000 : Int) < x := by omega
        go_wp2
        go_ret2
        exact ⟨ret_ib HR.out.symm HB.out.symm, b2⟩
    · have ha : amB a = false := by simpa using ha
      have HB := Lib.hid (ccB_no (askC_out (xs := xs) ha))
      have HR := Lib.hid (ccR_no (ccB_no (askC_out (xs := xs) ha)))
      rw [hc] at AC
      rw [ha] at IA
      go_enter Try.func33, Try.ntmps33
      go_wp2_with (first | (go_at_call 20; refine AC.out.mono ?_; rintro e w' ⟨rfl, rfl⟩) | (go_at_call 55; refine IA.out.mono ?_; rintro e w' ⟨rfl, rfl⟩))
      go_ret2
      exact ⟨ret_ib HR.out.symm HB.out.symm, Below.refl _ _⟩
  · have hc : cnsB xs = false := by simpa using hc
    have HB := Lib.hid (ccB_no (askC_no (a := a) hc))
    have HR := Lib.hid (ccR_no (ccB_no (askC_no (a := a) hc)))
    rw [hc] at AC
    go_enter Try.func33, Try.ntmps33
    go_wp2_with (go_at_call 20; refine AC.out.mono ?_; rintro e w' ⟨rfl, rfl⟩)
    go_ret2
    exact ⟨ret_ib HR.out.symm HB.out.symm, Below.refl _ _⟩
end Go.Proofs.Ytdgadabfahmdmaa
