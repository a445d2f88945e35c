/-
  Amounts without change in the model: GreatestUnpaid and CountUnpaid, by their contracts. Condition: slices of at most 2^40 numbers.
-/
import Derived.Test.YtdgadabfahmdmaaVfb
import Derived.Test.YtdgadabfahmdmaaVfw
import Derived.Test.YtdgadabfahmdmaaVfc
import Derived.Deep.RegionHeld3
namespace Go.Proofs.Ytdgadabfahmdmaa
open Go.RowKit

/-- The amount from which on all have change. -/
def farU (cs : List Nat) : Nat := cs.getD 0 0 * lastC cs
noncomputable def upB (xs : List Int) : Bool := cnsB xs && decide (gl (nL xs) 0 = 1)
noncomputable def upR (xs : List Int) : Int := if upB xs = true then lastU (unT (nL xs) (farU (nL xs) + 1)) else 0
noncomputable def ucR (xs : List Int) : Int := if upB xs = true then ((unT (nL xs) (farU (nL xs) + 1)).length : Nat) else 0
theorem upB_no {xs : List Int} (h : cnsB xs = false) : upB xs = false := by simp [upB, h]
theorem upR_no {xs : List Int} (h : upB xs = false) : upR xs = 0 := by simp [upR, h]
theorem ucR_no {xs : List Int} (h : upB xs = false) : ucR xs = 0 := by simp [ucR, h]
theorem upB_of {cs : List Nat} (h : Cn cs) : upB (iL cs) = decide (gl cs 0 = 1) := by simp [upB, cns_of h, nL_iL]
theorem upR_of {cs : List Nat} (h : upB (iL cs) = true) : upR (iL cs) = lastU (unT cs (farU cs + 1)) := by simp [upR, h, nL_iL]
theorem ucR_of {cs : List Nat} (h : upB (iL cs) = true) : ucR (iL cs) = ((unT cs (farU cs + 1)).length : Nat) := by simp [ucR, h, nL_iL]
theorem farU_bd {cs : List Nat} (h : Cn cs) : farU cs ≤ 1000000 := by
  have h1 := h.last_bd
  have h2 := h.bd 0 (by have := h.one; omega)
  have : cs.getD 0 0 * lastC cs ≤ 1000 * 1000 := Nat.mul_le_mul h2.2 h1.2
  unfold farU; omega
theorem unT_yes (cs : List Nat) (k : Nat) (h : fo cs k = big) : iL (unT cs (k + 1)) = iL (unT cs k) ++ [(k : Int)] := by
  rw [unT_succ, if_pos h]; simp [iL]
theorem unT_no (cs : List Nat) (k : Nat) (h : ¬ fo cs k = big) : iL (unT cs (k + 1)) = iL (unT cs k) := by
  rw [unT_succ, if_neg h]; simp
theorem unT_ilen (cs : List Nat) (k : Nat) : (iL (unT cs k)).length ≤ k := by rw [iL_len]; exact unT_len cs k

set_option maxHeartbeats 8000000 in
set_option maxRecDepth 20000 in
theorem cnUnpaid_any (v : Value) (cs : List Nat) (w : World) (h : Sp w v (iL cs)) (hc : Cn cs) :
    Calls Try.prog 77 #[v] w fun e w' => ∃ u, e = .returned u ∧ Ow w' w.heap.size u (iL (unT cs (farU cs + 1))) ∧ Below w.heap.size w w' := by
  have hfu := farU_bd hc
  have hlen := iL_len cs
  have h1 := hc.one
  have h8 := hc.eight
  have hla := lastC_at cs hc.ne
  have hlb := hc.last_bd
  have h0b := hc.bd 0 (by omega)
  have CF := Lib.hid (fun (W : World) (hW : Below w.heap.size w W) => cnFew_any v cs (farU cs) W ((h.below hW (Nat.le_refl _)).sv) hc.pos h8 (by omega))
  have hfl := fewT_len cs (farU cs)
  have FA := Lib.hid (fewT_at cs (farU cs))
  have FB := Lib.hid (fun a => fo_big hc.pos a)
  obtain ⟨b, off, cap, rfl, _, _, hbl, hcl⟩ := h
  rw [hlen] at hcl CF ⊢
  have c0 := hcl 0 (by omega)
  have cL := hcl (cs.length - 1) (by omega)
  rw [Nat.add_zero, iL_at] at c0
  rw [iL_at, ← hla] at cL
  have hw4 : IntKind.i64.wrap ((cs.length : Int) - 1) = ((cs.length - 1 : Nat) : Int) := (IntWalk.i64_in _ (by omega)).trans (by omega)
  have hmul : ((cs.getD 0 0 : Nat) : Int) * ((lastC cs : Nat) : Int) = ((farU cs : Nat) : Int) := by unfold farU; rw [Int.natCast_mul]
  have hw5 : IntKind.i64.wrap (((cs.getD 0 0 : Nat) : Int) * ((lastC cs : Nat) : Int)) = ((farU cs : Nat) : Int) := by rw [hmul]; exact IntWalk.i64_in _ (by omega)
  obtain ⟨p, ep⟩ : ∃ p, cs.length - 1 = p := ⟨_, rfl⟩
  rw [ep] at cL hw4
  obtain ⟨m, em⟩ : ∃ m, farU cs = m := ⟨_, rfl⟩
  rw [em] at CF hfl FA hfu hw5 ⊢
  obtain ⟨x, ex⟩ : ∃ x, cs.getD 0 0 = x := ⟨_, rfl⟩
  obtain ⟨y, ey⟩ : ∃ x, lastC cs = x := ⟨_, rfl⟩
  rw [ex] at c0 hw5
  rw [ey] at cL hw5
  obtain ⟨n, en⟩ : ∃ n, cs.length = n := ⟨_, rfl⟩
  have hnp : n = p + 1 := by omega
  subst hnp
  rw [en] at CF ⊢
  have j1 : (0 : Int) < ((p + 1 : Nat) : Int) := by omega
  have j2 : (0 : Int) ≤ p := by omega
  have j3 : (p : Int) < ((p + 1 : Nat) : Int) := by omega
  have j4 : (0 : Int) < (p : Int) + 1 := by omega
  have j5 : (p : Int) < (p : Int) + 1 := by omega
  have hw6 : IntKind.i64.wrap (p : Int) = (p : Int) := IntWalk.i64_in _ (by omega)
  clear hw4
  have S0 : w.drew.cell? ⟨b, off, none⟩ = some (.int .i64 (x : Int)) ∧ w.drew.cell? ⟨b, off + p, none⟩ = some (.int .i64 (y : Int)) := ⟨c0, cL⟩
  have hbl2 : b < w.drew.heap.size := hbl
  have Bd : Below w.heap.size w w.drew := (Below.refl _ w).drew
  clear hcl hc hla hlb h0b hmul ep em ex ey h8 hlen h1 en
  go_enter Try.func77, Try.ntmps77
  go_wp2
  go_region_held3 (fun w' => w'.cell? ⟨b, off, none⟩ = some (.int .i64 (x : Int)) ∧ w'.cell? ⟨b, off + p, none⟩ = some (.int .i64 (y : Int))) ((first | assumption | exact ⟨(b2.cell (p := ⟨b, off, none⟩) hbl2).trans S0.1, (b2.cell (p := ⟨b, off + p, none⟩) hbl2).trans S0.2⟩)) ((go_at_call 61; refine (CF.out _ Bd).mono ?_; rintro e w2 ⟨u, rfl, ho, hoa, b2⟩; obtain ⟨p2, cap2, rfl, hx⟩ := ho.sv; rw [hfl] at hx ⊢))
  obtain ⟨g, o, rfl, hg, hct⟩ := hx (by omega)
  have HCT : Hid (∀ j, j < m + 1 → w2.cell? ⟨g, o + j, none⟩ = some (.int .i64 (fwI cs j))) := Lib.hid (fun j hj => by rw [hct j hj, FA.out j hj])
  have b3 : Below w.heap.size w w2 := Bd.trans b2
  have hz3 := b3.size
  clear hct hx ho hoa b2 S0 CF hfl c0 cL hw5 hw6 Bd
  go_wp2
  go_loopw [3, 19] (fun t q wr => ∃ k : Nat, k ≤ m + 1 ∧ q = .int .i64 (k : Int) ∧ Ow wr w2.heap.size t (iL (unT cs k)) ∧ Below w2.heap.size w2 wr) (fun _ q _ => m + 1 - (intOf q).toNat)
  case atStart => exact ⟨0, Nat.zero_le _, rfl, ow_nil _ _, Below.refl _ _⟩
  case round =>
    obtain ⟨k, hk, rfl, ho, hb⟩ := hrel
    have hz := hb.size
    by_cases hlt : k < m + 1
    · have hcell := (hb.cell (p := ⟨g, o + k, none⟩) hg).trans (HCT.out k hlt)
      have j0 : (0 : Int) ≤ k := by omega
      have j1 : (k : Int) < (m : Int) + 1 := by omega
      have hln := unT_ilen cs k
      have fb := FB.out k
      by_cases hf : fo cs k < big
      · rw [fwI_yes hf] at hcell
        have E := Lib.hid (unT_no cs k (by omega))
        obtain ⟨x, ex⟩ : ∃ x, fo cs k = x := ⟨_, rfl⟩
        rw [ex] at hcell
        have hd : ¬ (x : Int) < 0 := by omega
        clear hf fb ex
        go_wp2
        go_roundw
        case rel => exact ⟨k + 1, by omega, by go_num, by rw [E.out]; exact ho, hb⟩
        case measure => simp only [intOf]; omega
      · rw [fwI_no hf] at hcell
        have E := Lib.hid (unT_yes cs k (by omega))
        obtain ⟨L, eL⟩ : ∃ L, iL (unT cs k) = L := ⟨_, rfl⟩
        rw [eL] at ho E hln
        clear hf fb eL
        go_wp2_with (at_builtin; refine wpList_append_src rfl _ _ rfl w2.heap.size _ L rfl (ho.alloc _) _ [(k : Int)] rfl (src_one _ _) (by simp only [List.length_cons, List.length_nil]; omega) (by simp; omega) ?_; intro v7 w7 h7 g7)
        have b7 := (hb.alloc hz (.cells #[.int .i64 (k : Int)] 3)).trans ((ho.alloc (.cells #[.int .i64 (k : Int)] 3)).grown (by simp; omega) g7)
        have ho7 : Ow w7 w2.heap.size v7 (iL (unT cs (k + 1))) := by rw [E.out]; exact h7
        clear h7 ho hb g7 E
        go_wp2
        go_roundw
        case rel => exact ⟨k + 1, by omega, by go_num, ho7, b7⟩
        case measure => simp only [intOf]; omega
    · have hke : k = m + 1 := by omega
      subst hke
      go_wp2
      go_ret
      exact ⟨_, rfl, ho.mono hz3, b3.trans (hb.mono hz3)⟩

set_option maxHeartbeats 2000000 in
theorem specGreatestUnpaid_any (v : Value) (xs : List Int) (w : World) (h : Sp w v xs) (hl : xs.length ≤ 1099511627776) :
    Calls Try.prog 44 #[v] w fun e w' => e = .returned (.tuple #[.int .i64 (upR xs), .bool (upB xs)]) ∧ Below w.heap.size w w' := by
  have CG := Lib.hid (cnGood_any v xs w h.sv hl)
  by_cases hc : cnsB xs = true
  · obtain ⟨cs, rfl, hc'⟩ := cn_of hc
    have CC := fun w' (hb : Below w.heap.size w w') => Lib.hid (cnCommon_any v cs w' ((h.below hb (Nat.le_refl _)).sv) (by have := hc'.eight; omega) (fun n hn => by have := hc'.mem n hn; omega))
    have CU := fun w' (hb : Below w.heap.size w w') => Lib.hid (cnUnpaid_any v cs w' (h.below hb (Nat.le_refl _)) hc')
    have HB := Lib.hid (upB_of hc')
    rw [hc] at CG
    by_cases hg : gl cs 0 = 1
    · have HB1 : Hid (upB (iL cs) = true) := Lib.hid (by rw [HB.out]; simpa using hg)
      have HR := Lib.hid (upR_of HB1.out)
      rw [hg] at CC
      have hln := unT_len cs (farU cs + 1)
      have hfb := farU_bd hc'
      obtain ⟨L, eL⟩ : ∃ L, unT cs (farU cs + 1) = L := ⟨_, rfl⟩
      rw [eL] at CU HR hln
      clear h hl hc hc' hg eL
      go_enter Try.func44, Try.ntmps44
      go_wp2_with fail
      refine CG.out.mono ?_
      rintro e w1 ⟨rfl, b1⟩
      go_wp2_with fail
      refine (CC w1 b1).out.mono ?_
      rintro e w2 ⟨rfl, b2⟩
      have b2 := nxt b1 b2
      go_wp2_with fail
      refine (CU w2 b2).out.mono ?_
      rintro e w3 ⟨u, rfl, ho, b3⟩
      have b3 := nxt b2 b3
      have hlen := iL_len L
      obtain ⟨p, cap, rfl, hx⟩ := ho.sv
      rw [hlen] at hx ⊢
      clear ho hlen CC CU
      rcases (List.eq_nil_or_concat L).imp id (fun ⟨L', f, hL⟩ => (⟨L', f, by rw [hL, List.concat_eq_append]⟩ : ∃ L' f, L = L' ++ [f])) with rfl | ⟨L', f, rfl⟩
      · clear hx
        go_wp2
        go_ret2
        exact ⟨ret_ib (by rw [HR.out, lastU_nil]) HB1.out.symm, b3⟩
      · obtain ⟨g, o, rfl, hgs, hct⟩ := hx (by simp)
        have hcell := hct L'.length (by simp)
        rw [iL_at] at hcell
        have e9 : (L' ++ [f]).getD L'.length 0 = f := by simp [List.getD_eq_getElem?_getD]
        rw [e9] at hcell
        rw [lastU_snoc] at HR
        have hln2 : (L' ++ [f]).length = L'.length + 1 := by simp
        rw [hln2] at hln ⊢
        obtain ⟨n, en⟩ : ∃ n, L'.length = n := ⟨_, rfl⟩
        rw [en] at hcell hln ⊢
        have d : (((n + 1 : Nat) : Int) == 0) = false := by rw [beq_eq_false_iff_ne]; omega
        have hw : IntKind.i64.wrap (((n + 1 : Nat) : Int) - 1) = (n : Int) := (IntWalk.i64_in _ (by omega)).trans (by omega)
        have hw' : ((n : Int) + 1 == 0) = false := by rw [beq_eq_false_iff_ne]; omega
        have j1 : (n : Int) < (n : Int) + 1 := by omega
        have j0 : (0 : Int) ≤ n := by omega
        clear hx hct e9 hln2 en
        go_wp2
        go_ret2
        exact ⟨ret_ib HR.out.symm HB1.out.symm, b3⟩
    · have HB1 : Hid (upB (iL cs) = false) := Lib.hid (by rw [HB.out]; simpa using hg)
      have HR := Lib.hid (upR_no HB1.out)
      obtain ⟨d, ed⟩ : ∃ d, gl cs 0 = d := ⟨_, rfl⟩
      rw [ed] at CC hg
      have dd : ((d : Int) != 1) = true := by rw [bne_iff_ne]; omega
      clear h hl hc hc' hg ed CU
      go_enter Try.func44, Try.ntmps44
      go_wp2_with fail
      refine CG.out.mono ?_
      rintro e w1 ⟨rfl, b1⟩
      go_wp2_with fail
      refine (CC w1 b1).out.mono ?_
      rintro e w2 ⟨rfl, b2⟩
      have b2 := nxt b1 b2
      go_wp2_with fail
      go_ret2
      exact ⟨ret_ib HR.out.symm HB1.out.symm, b2⟩
  · have hc : cnsB xs = false := by simpa using hc
    have HB := Lib.hid (upB_no hc)
    have HR := Lib.hid (upR_no (upB_no hc))
    rw [hc] at CG
    clear h hl hc
    go_enter Try.func44, Try.ntmps44
    go_wp2_with fail
    refine CG.out.mono ?_
    rintro e w1 ⟨rfl, b1⟩
    go_wp2_with fail
    go_ret2
    exact ⟨ret_ib HR.out.symm HB.out.symm, b1⟩

set_option maxHeartbeats 2000000 in
theorem specCountUnpaid_any (v : Value) (xs : List Int) (w : World) (h : Sp w v xs) (hl : xs.length ≤ 1099511627776) :
    Calls Try.prog 46 #[v] w fun e w' => e = .returned (.tuple #[.int .i64 (ucR xs), .bool (upB xs)]) ∧ Below w.heap.size w w' := by
  have CG := Lib.hid (cnGood_any v xs w h.sv hl)
  by_cases hc : cnsB xs = true
  · obtain ⟨cs, rfl, hc'⟩ := cn_of hc
    have CC := fun w' (hb : Below w.heap.size w w') => Lib.hid (cnCommon_any v cs w' ((h.below hb (Nat.le_refl _)).sv) (by have := hc'.eight; omega) (fun n hn => by have := hc'.mem n hn; omega))
    have CU := fun w' (hb : Below w.heap.size w w') => Lib.hid (cnUnpaid_any v cs w' (h.below hb (Nat.le_refl _)) hc')
    have HB := Lib.hid (upB_of hc')
    rw [hc] at CG
    by_cases hg : gl cs 0 = 1
    · have HB1 : Hid (upB (iL cs) = true) := Lib.hid (by rw [HB.out]; simpa using hg)
      have HR := Lib.hid (ucR_of HB1.out)
      rw [hg] at CC
      obtain ⟨L, eL⟩ : ∃ L, unT cs (farU cs + 1) = L := ⟨_, rfl⟩
      rw [eL] at CU HR
      clear h hl hc hc' hg eL
      go_enter Try.func46, Try.ntmps46
      go_wp2_with fail
      refine CG.out.mono ?_
      rintro e w1 ⟨rfl, b1⟩
      go_wp2_with fail
      refine (CC w1 b1).out.mono ?_
      rintro e w2 ⟨rfl, b2⟩
      have b2 := nxt b1 b2
      go_wp2_with fail
      refine (CU w2 b2).out.mono ?_
      rintro e w3 ⟨u, rfl, ho, b3⟩
      have b3 := nxt b2 b3
      have hlen := iL_len L
      obtain ⟨p, cap, rfl, hx⟩ := ho.sv
      rw [hlen] at hx ⊢
      clear ho hlen CC CU hx
      go_wp2
      go_ret2
      exact ⟨ret_ib HR.out.symm HB1.out.symm, b3⟩
    · have HB1 : Hid (upB (iL cs) = false) := Lib.hid (by rw [HB.out]; simpa using hg)
      have HR := Lib.hid (ucR_no HB1.out)
      obtain ⟨d, ed⟩ : ∃ d, gl cs 0 = d := ⟨_, rfl⟩
      rw [ed] at CC hg
      have dd : ((d : Int) != 1) = true := by rw [bne_iff_ne]; omega
      clear h hl hc hc' hg ed CU
      go_enter Try.func46, Try.ntmps46
      go_wp2_with fail
      refine CG.out.mono ?_
      rintro e w1 ⟨rfl, b1⟩
      go_wp2_with fail
      refine (CC w1 b1).out.mono ?_
      rintro e w2 ⟨rfl, b2⟩
      have b2 := nxt b1 b2
      go_wp2_with fail
      go_ret2
      exact ⟨ret_ib HR.out.symm HB1.out.symm, b2⟩
  · have hc : cnsB xs = false := by simpa using hc
    have HB := Lib.hid (upB_no hc)
    have HR := Lib.hid (ucR_no (upB_no hc))
    rw [hc] at CG
    clear h hl hc
    go_enter Try.func46, Try.ntmps46
    go_wp2_with fail
    refine CG.out.mono ?_
    rintro e w1 ⟨rfl, b1⟩
    go_wp2_with fail
    go_ret2
    exact ⟨ret_ib HR.out.symm HB.out.symm, b1⟩
end Go.Proofs.Ytdgadabfahmdmaa
