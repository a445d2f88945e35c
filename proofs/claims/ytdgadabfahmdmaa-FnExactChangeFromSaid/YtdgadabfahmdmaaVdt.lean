/-
  The program's table of what is drawn from a purse, filled: for each amount the first kind of the first change, and how many of it. Conditions: coins of at least 1 and at most eight, a purse for them, an amount of at most 2^20.
-/
import Derived.Test.YtdgadabfahmdmaaVtp
import Derived.Test.YtdgadabfahmdmaaVdw
namespace Go.Proofs.Ytdgadabfahmdmaa
open Go.RowKit Go.Shelf

attribute [local go_sem] Oper.semAt_some

/-- The rounds that came. -/
def rdd (cs ps : List Nat) (ks : List (Fin (iL cs).length)) : List (Nat × Nat × Nat) := ks.map fun k => (cs.length - 1 - k.1, cs.getD (cs.length - 1 - k.1) 0, ps.getD (cs.length - 1 - k.1) 0)
theorem rdd_snoc (cs ps : List Nat) (ks : List (Fin (iL cs).length)) (k : Fin (iL cs).length) : rdd cs ps (ks ++ [k]) = rdd cs ps ks ++ [(cs.length - 1 - k.1, cs.getD (cs.length - 1 - k.1) 0, ps.getD (cs.length - 1 - k.1) 0)] := by simp [rdd]
theorem rdd_in {cs : List Nat} (h : Pos cs) (ps : List Nat) (ks : List (Fin (iL cs).length)) : ∀ p ∈ rdd cs ps ks, p.1 ≤ cs.length ∧ 1 ≤ p.2.1 := by
  intro p hp
  simp only [rdd, List.mem_map] at hp
  obtain ⟨k, _, rfl⟩ := hp
  have hk := k.2
  have hkl := iL_len cs
  exact ⟨by show cs.length - 1 - k.1 ≤ _; omega, h _ (at_mem (by omega))⟩
theorem drF_to (cs ps : List Nat) (hl : cs.length = ps.length) : ∀ k, k ≤ cs.length → drF cs.length (rdd cs ps (finTo (iL cs).length k)) = drT (cs.length - k) (cs.drop (cs.length - k)) (ps.drop (cs.length - k)) := by
  intro k
  induction k with
  | zero => intro _; rw [Nat.sub_zero, List.drop_length, hl, List.drop_length]; rfl
  | succ k ih =>
    intro hk
    rw [finTo_succ (show k < (iL cs).length by rw [iL_len]; omega), rdd_snoc, drF_snoc, ih (by omega)]
    have e : cs.length - k = (cs.length - (k + 1)) + 1 := by omega
    have e3 : cs.length - 1 - k = cs.length - (k + 1) := by omega
    have hd := drop_consN cs (cs.length - (k + 1)) (by omega)
    have hd2 := drop_consN ps (cs.length - (k + 1)) (by omega)
    rw [hd, hd2, e]
    simp only [e3]
    rfl

/-- The loop's state: the boxes of the purse, the amount, the table and the iterator, and the table told so far. -/
structure DpJ (w : World) (N m : Nat) (cs ps : List Nat) (PV IV : Value) (pre : List (Fin (iL cs).length)) (W : World) : Prop where
  pu : Boxed W N 22 PV
  gr : Boxed W (N + 1) 3 (.int .i64 (m : Int))
  box : Boxed W (N + 3) 61 (.slice (some ⟨N + 2, 0, none⟩) (m + 1) (m + 1))
  it : Boxed W (N + 4) 22 IV
  tb : Dp W (N + 2) (m + 1) (drF cs.length (rdd cs ps pre))
  bel : Below N w W
theorem dpJ_own {w : World} {N m : Nat} {cs ps : List Nat} {PV IV : Value} (B : Nat) (hN : N ≤ w.heap.size) (hB : N ≤ B) : OwnFrom B (DpJ w N m cs ps PV IV) := by
  intro pre W W' row h hg hr
  obtain ⟨h0, h1, h2, h3, h4, h5⟩ := h
  have keep : ∀ (k : Nat) (c : Array Value) (t : TypeId) (f : Nat × Nat), W.heap[k]? = some (.cells c t f) → W'.heap[k]? = some (.cells c t f) := fun k c t f hk => by
    refine (hg.block k (Array.getElem?_eq_some_iff.1 hk).1 (fun e => ?_)).trans hk
    obtain ⟨_, o, ho, hc⟩ := hr k e.symm
    rw [hk] at ho
    cases ho
    cases hc
  refine ⟨keep _ _ _ _ h0, keep _ _ _ _ h1, keep _ _ _ _ h2, keep _ _ _ _ h3, ?_, ownFrom_below hN hB pre W W' row h5 hg hr⟩
  obtain ⟨c, hc, r⟩ := h4
  exact ⟨c, keep _ _ _ _ hc, r⟩

/-- The table while a kind's coins are put in: below the amount q it is told anew. -/
def drawTo (c k p : Nat) (f : Nat → Dr) (q j : Nat) : Dr := if j < q then pass c (fun _ x y => drS k p x y) f j else f j

set_option maxRecDepth 100000 in
set_option maxHeartbeats 8000000 in
theorem tableDrawn_in (F : Fence) (hFw : F = Fence.wide) (n : Nat) (hF : ∀ k, F.fn k) (hro : F.round = none) (hn : 5 ≤ n)
    (cap b off pcap pb poff : Nat) (cs ps : List Nat) (m : Nat) (w : World) (hbl : b < w.heap.size) (hpb : pb < w.heap.size)
    (hcl : ∀ j, j < (iL cs).length → w.cell? ⟨b, off + j, none⟩ = some (.int .i64 ((iL cs).getD j 0))) (hpc : ∀ j, j < cs.length → w.cell? ⟨pb, poff + j, none⟩ = some (.int .i64 ((ps.getD j 0 : Nat) : Int))) (hp : Pos cs) (hlp : cs.length = ps.length) (hl : cs.length ≤ 8) (hm : m ≤ 1048576) (hcb : ∀ c ∈ cs, c ≤ 1048576) :
    CallsIn F n Try.prog 74 #[(.slice (some ⟨b, off, none⟩) (iL cs).length cap), (.slice (some ⟨pb, poff, none⟩) (iL cs).length pcap), .int .i64 (m : Int)] w fun e w' => e = .returned (.slice (some ⟨w.heap.size + 2, 0, none⟩) (m + 1) (m + 1)) ∧ Dp w' (w.heap.size + 2) (m + 1) (drT 0 cs ps) ∧ Below w.heap.size w w' := by
  have h1 : 1 ≤ n := by omega
  have HFw := Lib.hid hFw
  have HP := Lib.hid hp
  have HCB := Lib.hid hcb
  have HCL := Lib.hid hcl
  have HPC := Lib.hid hpc
  have HBL := Lib.hid hbl
  have HPB := Lib.hid hpb
  have HLP := Lib.hid hlp
  have hlen := iL_len cs
  have HLEN := Lib.hid hlen
  have hl8 : (iL cs).length ≤ 8 := by omega
  have HL := Lib.hid hl
  obtain ⟨i0, hi, hz0, hz1, hz2⟩ := info_parts Try.infoD
  have hmk : ∀ w, (Instr.makeSlice 61 (.int .i64 ((m : Int) + 1)) (.int .i64 ((m : Int) + 1))).run Try.prog w = .ok (.slice (some ⟨w.heap.size, 0, none⟩) (m + 1) (m + 1)) (w.alloc (.cells (madeCells #[.int .i64 0, .int .i64 0] ((m + 1) * 2)) 60)) := fun w => by
    have h := run_make (P := Try.prog) w 61 60 i0 _ Try.underlying61 hi hz0 .i64 .i64 ((m : Int) + 1) ((m : Int) + 1) (by omega) (by omega) (by rw [hz2]; omega) (by omega)
    rw [show ((m : Int) + 1).toNat = m + 1 by omega, hz1] at h
    exact h
  have hm0 := made2_zero (m + 1) 0 (by omega)
  have hm1 := made2_zero (m + 1) 1 (by omega)
  clear hcl hpc hp hcb hFw hbl hpb hi hz0 hz1 hz2 hlen hl hlp
  refine callsIn_of_wp_marks Try.func74 rfl (hF _) ?_ hro
  simp only [Try.ntmps74, List.size_toArray, List.length_cons, List.length_nil, Nat.reduceAdd, Nat.reduceSub, Array.replicate_succ, Array.replicate_zero, List.push_toArray, List.append_toArray, List.nil_append, List.cons_append]
  gi_wp2_with (gi_at_call 58; refine (backward_in F (n - 1) (hF _) hro _ _ _ _).mono ?_; rintro e w' ⟨rfl, rfl⟩)
  have W0 : Below w.heap.size w (((((w.alloc (.cells #[(.slice (some ⟨pb, poff, none⟩) (iL cs).length pcap)] 22)).alloc (.cells #[.int .i64 (m : Int)] 3)).alloc (.cells ((madeCells #[Value.int .i64 0, .int .i64 0] ((m + 1) * 2)).setIfInBounds 0 (.int .i64 ((iL cs).length : Int)) |>.setIfInBounds 1 (.int .i64 0)) 60)).alloc (.cells #[.slice (some ⟨w.heap.size + 2, 0, none⟩) (m + 1) (m + 1)] 61)).alloc (.cells #[(.slice (some ⟨b, off, none⟩) (iL cs).length cap)] 22)) := (((((Below.refl _ _).alloc (Nat.le_refl _) _).alloc (by simp) _).alloc (by simp; omega) _).alloc (by simp; omega) _).alloc (by simp; omega) _
  have hbP := ((((Boxed.new w 22 (.slice (some ⟨pb, poff, none⟩) (iL cs).length pcap)).alloc (.cells #[.int .i64 (m : Int)] 3)).alloc (.cells ((madeCells #[Value.int .i64 0, .int .i64 0] ((m + 1) * 2)).setIfInBounds 0 (.int .i64 ((iL cs).length : Int)) |>.setIfInBounds 1 (.int .i64 0)) 60)).alloc (.cells #[.slice (some ⟨w.heap.size + 2, 0, none⟩) (m + 1) (m + 1)] 61)).alloc (.cells #[(.slice (some ⟨b, off, none⟩) (iL cs).length cap)] 22)
  have hbG := (((Boxed.new (w.alloc (.cells #[(.slice (some ⟨pb, poff, none⟩) (iL cs).length pcap)] 22)) 3 (.int .i64 (m : Int))).alloc (.cells ((madeCells #[Value.int .i64 0, .int .i64 0] ((m + 1) * 2)).setIfInBounds 0 (.int .i64 ((iL cs).length : Int)) |>.setIfInBounds 1 (.int .i64 0)) 60)).alloc (.cells #[.slice (some ⟨w.heap.size + 2, 0, none⟩) (m + 1) (m + 1)] 61)).alloc (.cells #[(.slice (some ⟨b, off, none⟩) (iL cs).length cap)] 22)
  have hT0 := ((dp_start ((w.alloc (.cells #[(.slice (some ⟨pb, poff, none⟩) (iL cs).length pcap)] 22)).alloc (.cells #[.int .i64 (m : Int)] 3)) (m + 1) (iL cs).length (by omega)).below ((Below.refl _ _).alloc (Nat.le_refl _) (.cells #[.slice (some ⟨w.heap.size + 2, 0, none⟩) (m + 1) (m + 1)] 61)) (Nat.le_refl _)).below ((Below.refl _ _).alloc (Nat.le_refl _) (.cells #[(.slice (some ⟨b, off, none⟩) (iL cs).length cap)] 22)) (Nat.le_refl _)
  have hbT := (Boxed.new (((w.alloc (.cells #[(.slice (some ⟨pb, poff, none⟩) (iL cs).length pcap)] 22)).alloc (.cells #[.int .i64 (m : Int)] 3)).alloc (.cells ((madeCells #[Value.int .i64 0, .int .i64 0] ((m + 1) * 2)).setIfInBounds 0 (.int .i64 ((iL cs).length : Int)) |>.setIfInBounds 1 (.int .i64 0)) 60)) 61 (.slice (some ⟨w.heap.size + 2, 0, none⟩) (m + 1) (m + 1))).alloc (.cells #[(.slice (some ⟨b, off, none⟩) (iL cs).length cap)] 22)
  have hbS := Boxed.new ((((w.alloc (.cells #[(.slice (some ⟨pb, poff, none⟩) (iL cs).length pcap)] 22)).alloc (.cells #[.int .i64 (m : Int)] 3)).alloc (.cells ((madeCells #[Value.int .i64 0, .int .i64 0] ((m + 1) * 2)).setIfInBounds 0 (.int .i64 ((iL cs).length : Int)) |>.setIfInBounds 1 (.int .i64 0)) 60)).alloc (.cells #[.slice (some ⟨w.heap.size + 2, 0, none⟩) (m + 1) (m + 1)] 61)) 22 (.slice (some ⟨b, off, none⟩) (iL cs).length cap)
  simp only [World.size_alloc] at hbG hbT hbS hT0
  have hzl : (((((w.alloc (.cells #[(.slice (some ⟨pb, poff, none⟩) (iL cs).length pcap)] 22)).alloc (.cells #[.int .i64 (m : Int)] 3)).alloc (.cells ((madeCells #[Value.int .i64 0, .int .i64 0] ((m + 1) * 2)).setIfInBounds 0 (.int .i64 ((iL cs).length : Int)) |>.setIfInBounds 1 (.int .i64 0)) 60)).alloc (.cells #[.slice (some ⟨w.heap.size + 2, 0, none⟩) (m + 1) (m + 1)] 61)).alloc (.cells #[(.slice (some ⟨b, off, none⟩) (iL cs).length cap)] 22)).heap.size = w.heap.size + 1 + 1 + 1 + 1 + 1 := by simp
  obtain ⟨Wl, hWl⟩ : ∃ Wl, (((((w.alloc (.cells #[(.slice (some ⟨pb, poff, none⟩) (iL cs).length pcap)] 22)).alloc (.cells #[.int .i64 (m : Int)] 3)).alloc (.cells ((madeCells #[Value.int .i64 0, .int .i64 0] ((m + 1) * 2)).setIfInBounds 0 (.int .i64 ((iL cs).length : Int)) |>.setIfInBounds 1 (.int .i64 0)) 60)).alloc (.cells #[.slice (some ⟨w.heap.size + 2, 0, none⟩) (m + 1) (m + 1)] 61)).alloc (.cells #[(.slice (some ⟨b, off, none⟩) (iL cs).length cap)] 22)) = Wl := ⟨_, rfl⟩
  rw [hWl] at W0 hbP hbG hbT hbS hT0 hzl
  try rw [hWl]
  obtain ⟨N, hN⟩ : ∃ N, w.heap.size = N := ⟨_, rfl⟩
  rw [hN] at W0 hbP hbG hbT hbS hT0 hzl HBL HPB ⊢
  have hcs : ∀ j, j < (iL cs).length → Wl.cell? ⟨b, off + j, none⟩ = some (.int .i64 ((iL cs).getD j 0)) := fun j hj => (W0.cell (p := ⟨b, off + j, none⟩) HBL.out).trans (HCL.out j hj)
  rw [iL_len] at hT0
  have hZN : N ≤ w.heap.size := by omega
  clear hWl hmk hm0 hm1
  refine wpIn_rangeFunc_ownG hro h1 (gf := 85) (lb := #[.pointer (some ⟨N + 1 + 1 + 1 + 1, 0, none⟩)]) rfl (hF _) (enters_of Try.func85 (by kernel_rfl) rfl)
    (back_stops F (n - 1) (hF _) hro (by omega) (N + 1 + 1 + 1 + 1) N b off cap (some ⟨b, off, none⟩) (iL cs) (fun _ => rfl) (by omega) Wl (fun _ => HBL.out) (by omega) (by omega) hbS.cell hcs) KpB.trans (kpB_b (by omega) (by omega)) (Below.refl _ _) (fun _ => rfl)
    (DpJ w N m cs ps (.slice (some ⟨pb, poff, none⟩) (iL cs).length pcap) (.slice (some ⟨b, off, none⟩) (iL cs).length cap))
    (fun _ _ _ => False)
    (dpJ_own _ (by omega) (by omega))
    (fun _ _ _ _ _ hs _ _ => hs)
    ⟨hbP, hbG, hbT, hbS, hT0, W0⟩
    (fun x => { tmps := #[(.slice (some ⟨b, off, none⟩) (iL cs).length cap), (.slice (some ⟨pb, poff, none⟩) (iL cs).length pcap), .int .i64 (m : Int), undef, .pointer (some ⟨N, 0, none⟩), .pointer (some ⟨N + 1, 0, none⟩), .slice none 0 0, .pointer (some ⟨N + 1 + 1 + 1, 0, none⟩), .int .i64 (bkF (iL cs) x.1).1, .int .i64 (bkF (iL cs) x.1).2, undef, .int .i64 (m : Int), .int .i64 ((m : Int) + 1), .slice (some ⟨N + 1 + 1, 0, none⟩) (m + 1) (m + 1), .slice (some ⟨N + 1 + 1, 0, none⟩) (m + 1) (m + 1), (.slice (some ⟨b, off, none⟩) (iL cs).length cap), .int .i64 ((iL cs).length : Int), .agg #[.int .i64 ((iL cs).length : Int), .int .i64 0], .pointer (some ⟨N + 1 + 1, 0, none⟩), (.slice (some ⟨b, off, none⟩) (iL cs).length cap), .func (.func 85) #[] #[.pointer (some ⟨N + 1 + 1 + 1 + 1, 0, none⟩)], .int .i64 (bkF (iL cs) x.1).1, .int .i64 (bkF (iL cs) x.1).2, undef, undef, undef, undef, undef, undef, undef, undef, undef, undef, undef, undef, undef, undef, undef, undef, undef, undef, undef, undef, undef, undef, undef, undef, undef, undef, undef, undef], defers := [] }) ?assign ?body ?done ?stop
  case assign =>
    intro l x W K hK
    gi_wp2
    exact hK
  case body =>
    rintro l' pre x W ⟨hP, hG, hT, hS, hTb, hB⟩ hlt
    have HFW := HFw.out
    subst HFW
    have hxl := x.2
    have RS := rdd_snoc cs ps pre x
    have hpo : ∀ p ∈ rdd cs ps pre, p.1 ≤ 8 ∧ 1 ≤ p.2.1 := fun p hpp => by have := rdd_in HP.out ps pre p hpp; have := HL.out; omega
    have hbk : bkF (iL cs) x.1 = (((cs.length - 1 - x.1 : Nat) : Int), ((cs.getD (cs.length - 1 - x.1) 0 : Nat) : Int)) := by
      exact bk_iL cs x.1 (by have := HLEN.out; omega)
    have hc1 := HP.out _ (at_mem (cs := cs) (j := cs.length - 1 - x.1) (by have := HLEN.out; omega))
    have hc2 := HCB.out _ (at_mem (cs := cs) (j := cs.length - 1 - x.1) (by have := HLEN.out; omega))
    have hk8 : cs.length - 1 - x.1 ≤ 8 := by have := HL.out; omega
    have hkl : cs.length - 1 - x.1 < (iL cs).length := by have := HLEN.out; omega
    have hpk := HPC.out (cs.length - 1 - x.1) (by have := HLEN.out; omega)
    rw [hbk]
    obtain ⟨k, ek⟩ : ∃ k, cs.length - 1 - x.1 = k := ⟨_, rfl⟩
    rw [ek] at hc1 hc2 hk8 hkl hpk RS ⊢
    obtain ⟨c, ec⟩ : ∃ c, cs.getD k 0 = c := ⟨_, rfl⟩
    rw [ec] at hc1 hc2 RS ⊢
    obtain ⟨pp, epp⟩ : ∃ p, ps.getD k 0 = p := ⟨_, rfl⟩
    rw [epp] at hpk RS
    have PF := Lib.hid (drF_ok (K := cs.length) HL.out hpo)
    have RS := Lib.hid (show drF cs.length (rdd cs ps (pre ++ [x])) = pass c (fun _ x y => drS k pp x y) (drF cs.length (rdd cs ps pre)) by rw [RS, drF_snoc])
    obtain ⟨f, ef⟩ : ∃ f, drF cs.length (rdd cs ps pre) = f := ⟨_, rfl⟩
    rw [ef] at PF RS hTb
    have hgc := hG.cell
    have hBz := hB.size
    rw [hN] at hBz
    have hSl := hS.lt
    have HPK := Lib.hid hpk
    have hkI : (k : Int) < ((iL cs).length : Int) := by omega
    have hk0 : (0 : Int) ≤ (k : Int) := by omega
    clear hbk ek ec epp ef hpo hpk
    gi_wp2
    gi_loopw [10] (fun i wr => ∃ q : Nat, c ≤ q ∧ (q ≤ c ∨ q ≤ m + 1) ∧ i = .int .i64 (q : Int) ∧ Boxed wr N 22 (.slice (some ⟨pb, poff, none⟩) (iL cs).length pcap) ∧ Boxed wr (N + 1) 3 (.int .i64 (m : Int)) ∧ Boxed wr (N + 3) 61 (.slice (some ⟨N + 2, 0, none⟩) (m + 1) (m + 1)) ∧ wr.heap[N + 4]? = W.heap[N + 4]? ∧ Dp wr (N + 2) (m + 1) (drawTo c k pp f q) ∧ KeepsFrom Wl.heap.size W wr ∧ Below N W wr ∧ N + 4 < wr.heap.size) (fun i _ => m + 1 - (intOf i).toNat)
    case atStart =>
      exact ⟨c, Nat.le_refl _, .inl (Nat.le_refl _), rfl, hP, hG, hT, rfl, hTb.congr (fun j hj => by
        unfold drawTo
        split
        · rename_i h; rw [pass_low h]
        · rfl), KeepsFrom.refl _ _, Below.refl _ _, hSl⟩
    case round =>
      obtain ⟨q, hq1, hq2, rfl, hP, hG, hT, hI, htb, hkf, hbw, hsz⟩ := hrel
      have hgc := hG.cell
      have htc := hT.cell
      have hpc := hP.cell
      by_cases hqm : q ≤ m
      · have OKp := DrOk.pass (f := f) (p := pp) hk8 hc1 PF.out (q - c)
        have PH := Lib.hid (pass_high (s := fun _ x y => drS k pp x y) (f := f) hc1 hq1)
        have e1 : drawTo c k pp f q q = f q := by simp [drawTo]
        have e2 : drawTo c k pp f q (q - c) = pass c (fun _ x y => drS k pp x y) f (q - c) := by unfold drawTo; rw [if_pos (by omega)]
        obtain ⟨x1, x2, x5, x6⟩ := htb.cells (j := q) (by omega)
        obtain ⟨u1, u2, _, _⟩ := htb.cells (j := q - c) (by omega)
        rw [e1] at x1 x2
        rw [e2] at u1 u2
        obtain ⟨P, eP⟩ : ∃ P, f q = P := ⟨_, rfl⟩
        obtain ⟨R, eR⟩ : ∃ R, pass c (fun _ x y => drS k pp x y) f (q - c) = R := ⟨_, rfl⟩
        rw [eP] at x1 x2 PH
        rw [eR] at u1 u2 PH OKp
        have j0 : (0 : Int) ≤ (q : Int) - c := by omega
        have j1 : (q : Int) - c < (m : Int) + 1 := by omega
        have j2 : ((q : Int) - c).toNat = q - c := by omega
        have j3 : (q : Int) < (m : Int) + 1 := by omega
        have j4 : (0 : Int) ≤ q := by omega
        have jw : IntKind.i64.wrap ((q : Int) - c) = (q : Int) - c := IntWalk.i64_in _ (by omega)
        by_cases hz : P.k = 0 ∧ P.t = 0
        · have OR := Lib.hid (drW_any R k pp wr.drew OKp.t (by omega))
          have PZ := Lib.hid (show drS k pp P R = drW k pp R from if_pos hz)
          rw [hz.1] at x1
          rw [hz.2] at x2
          obtain ⟨Z, eZ⟩ : ∃ Z, drW k pp R = Z := ⟨_, rfl⟩
          rw [eZ] at OR PZ
          obtain ⟨y0, ey0⟩ : ∃ y, R.k = y := ⟨_, rfl⟩
          obtain ⟨y1, ey1⟩ : ∃ y, R.t = y := ⟨_, rfl⟩
          rw [ey0] at u1
          rw [ey1] at u2
          simp only [drV, ey0, ey1] at OR
          have X1 : wr.cell? ⟨N + 2, q * 2, none⟩ = some (.int .i64 0) := x1
          have X2 : wr.cell? ⟨N + 2, q * 2 + 1, none⟩ = some (.int .i64 0) := x2
          have hpkw : wr.cell? ⟨pb, poff + k, none⟩ = some (.int .i64 (pp : Int)) := (hbw.cell (p := ⟨pb, poff + k, none⟩) HPB.out).trans ((hB.cell (p := ⟨pb, poff + k, none⟩) HPB.out).trans HPK.out)
          have hpbw : pb < wr.heap.size := by have := HPB.out; omega
          have hpbN : pb ≠ N + 2 := by have := HPB.out; omega
          have S0 : wr.drew.cell? ⟨N + 3, 0, none⟩ = some (.slice (some ⟨N + 2, 0, none⟩) (m + 1) (m + 1)) ∧ wr.drew.cell? ⟨N, 0, none⟩ = some (.slice (some ⟨pb, poff, none⟩) (iL cs).length pcap) ∧ wr.drew.cell? ⟨pb, poff + k, none⟩ = some (.int .i64 (pp : Int)) ∧ wr.drew.cell? ⟨N + 2, (q - c) * 2, none⟩ = some (.int .i64 (y0 : Int)) ∧ wr.drew.cell? ⟨N + 2, (q - c) * 2 + 1, none⟩ = some (.int .i64 (y1 : Int)) := ⟨htc, hpc, hpkw, u1, u2⟩
          clear OKp e1 e2 eP eR eZ ey0 ey1 hz x1 x2
          gi_wp2
          refine region_wide (S := fun w' => w'.cell? ⟨N + 3, 0, none⟩ = some (.slice (some ⟨N + 2, 0, none⟩) (m + 1) (m + 1)) ∧ w'.cell? ⟨N, 0, none⟩ = some (.slice (some ⟨pb, poff, none⟩) (iL cs).length pcap) ∧ w'.cell? ⟨pb, poff + k, none⟩ = some (.int .i64 (pp : Int)) ∧ w'.cell? ⟨N + 2, (q - c) * 2, none⟩ = some (.int .i64 (y0 : Int)) ∧ w'.cell? ⟨N + 2, (q - c) * 2 + 1, none⟩ = some (.int .i64 (y1 : Int))) (by rintro ⟨_, _, h⟩; first | exact h | (simp at h)) (by kernel_rfl) (by intro i o c h; rcases i with _ | _ | _ | _ | _ | _ | _ | _ | _ | _ | _ | _ | _ | _ | _ | _ | i <;> simp at h <;> subst h <;> simp) ?_
          refine wpAnyH_take (i := 0) (v := _) rfl (by kernel_rfl) (by kernel_rfl) (by kernel_rfl) (fun _ _ _ h => h) (Or.inl ⟨by rfl, fun w hSw => by (obtain ⟨s1, s2, s3, s4, s5⟩ := hSw; go_simp; try with_reducible rfl)⟩) S0 ?_
          refine wpAnyH_take (i := 1) (v := _) rfl (by kernel_rfl) (by kernel_rfl) (by kernel_rfl) (fun _ _ _ h => h) (Or.inl ⟨by rfl, fun w hSw => by (obtain ⟨s1, s2, s3, s4, s5⟩ := hSw; go_simp; try with_reducible rfl)⟩) S0 ?_
          refine wpAnyH_take (i := 2) (v := _) rfl (by kernel_rfl) (by kernel_rfl) (by kernel_rfl) (fun _ _ _ h => h) (Or.inl ⟨by rfl, fun w hSw => by (obtain ⟨s1, s2, s3, s4, s5⟩ := hSw; go_simp; try with_reducible rfl)⟩) S0 ?_
          refine wpAnyH_take (i := 3) (v := _) rfl (by kernel_rfl) (by kernel_rfl) (by kernel_rfl) (fun _ _ _ h => h) (Or.inl ⟨by rfl, fun w hSw => by (obtain ⟨s1, s2, s3, s4, s5⟩ := hSw; go_simp; try with_reducible rfl)⟩) S0 ?_
          refine wpAnyH_take (i := 4) (v := _) rfl (by kernel_rfl) (by kernel_rfl) (by kernel_rfl) (fun _ _ _ h => h) (Or.inl ⟨by rfl, fun w hSw => by (obtain ⟨s1, s2, s3, s4, s5⟩ := hSw; go_simp; try with_reducible rfl)⟩) S0 ?_
          refine wpAnyH_take (i := 5) (v := _) rfl (by kernel_rfl) (by kernel_rfl) (by kernel_rfl) (fun _ _ _ h => h) (Or.inl ⟨by rfl, fun w hSw => by (obtain ⟨s1, s2, s3, s4, s5⟩ := hSw; go_simp; try with_reducible rfl)⟩) S0 ?_
          refine wpAnyH_take (i := 6) (v := _) rfl (by kernel_rfl) (by kernel_rfl) (by kernel_rfl) (fun _ _ _ h => h) (Or.inl ⟨by rfl, fun w hSw => by (obtain ⟨s1, s2, s3, s4, s5⟩ := hSw; go_simp; try with_reducible rfl)⟩) S0 ?_
          refine wpAnyH_take (i := 7) (v := _) rfl (by kernel_rfl) (by kernel_rfl) (by kernel_rfl) (fun _ _ _ h => h) (Or.inl ⟨by rfl, fun w hSw => by (obtain ⟨s1, s2, s3, s4, s5⟩ := hSw; go_simp; try with_reducible rfl)⟩) S0 ?_
          refine wpAnyH_take (i := 8) (v := _) rfl (by kernel_rfl) (by kernel_rfl) (by kernel_rfl) (fun _ _ _ h => h) (Or.inl ⟨by rfl, fun w hSw => by (obtain ⟨s1, s2, s3, s4, s5⟩ := hSw; go_simp; try with_reducible rfl)⟩) S0 ?_
          refine wpAnyH_take (i := 9) (v := _) rfl (by kernel_rfl) (by kernel_rfl) (by kernel_rfl) (fun _ _ _ h => h) (Or.inl ⟨by rfl, fun w hSw => by (obtain ⟨s1, s2, s3, s4, s5⟩ := hSw; go_simp; try with_reducible rfl)⟩) S0 ?_
          refine wpAnyH_take (i := 10) (v := _) rfl (by kernel_rfl) (by kernel_rfl) (by kernel_rfl) (fun _ _ _ h => h) (Or.inl ⟨by rfl, fun w hSw => by (obtain ⟨s1, s2, s3, s4, s5⟩ := hSw; go_simp; try with_reducible rfl)⟩) S0 ?_
          refine wpAnyH_take (i := 11) (v := _) rfl (by kernel_rfl) (by kernel_rfl) (by kernel_rfl) (fun _ _ _ h => h) (Or.inl ⟨by rfl, fun w hSw => by (obtain ⟨s1, s2, s3, s4, s5⟩ := hSw; go_simp; try with_reducible rfl)⟩) S0 ?_
          refine wpAnyH_take (i := 12) (v := _) rfl (by kernel_rfl) (by kernel_rfl) (by kernel_rfl) (fun _ _ _ h => h) (Or.inl ⟨by rfl, fun w hSw => by (obtain ⟨s1, s2, s3, s4, s5⟩ := hSw; go_simp; try with_reducible rfl)⟩) S0 ?_
          refine wpAnyH_ready (rs := [13]) (by kernel_rfl) (by simp) (AllReadyH.cons rfl (fun K hK => ?_) AllReadyH.nil)
          go_simp
          go_at_call 90
          refine OR.out.mono ?_
          rintro e w2 ⟨rfl, b2⟩
          have S2 : w2.cell? ⟨N + 3, 0, none⟩ = some (.slice (some ⟨N + 2, 0, none⟩) (m + 1) (m + 1)) ∧ w2.cell? ⟨N, 0, none⟩ = some (.slice (some ⟨pb, poff, none⟩) (iL cs).length pcap) ∧ w2.cell? ⟨pb, poff + k, none⟩ = some (.int .i64 (pp : Int)) ∧ w2.cell? ⟨N + 2, (q - c) * 2, none⟩ = some (.int .i64 (y0 : Int)) ∧ w2.cell? ⟨N + 2, (q - c) * 2 + 1, none⟩ = some (.int .i64 (y1 : Int)) := ⟨(b2.cell (p := ⟨N + 3, 0, none⟩) (by show N + 3 < wr.heap.size; omega)).trans S0.1, (b2.cell (p := ⟨N, 0, none⟩) (by show N < wr.heap.size; omega)).trans S0.2.1, (b2.cell (p := ⟨pb, poff + k, none⟩) (by show pb < wr.heap.size; omega)).trans S0.2.2.1, (b2.cell (p := ⟨N + 2, (q - c) * 2, none⟩) (by show N + 2 < wr.heap.size; omega)).trans S0.2.2.2.1, (b2.cell (p := ⟨N + 2, (q - c) * 2 + 1, none⟩) (by show N + 2 < wr.heap.size; omega)).trans S0.2.2.2.2⟩
          have bz := b2.size
          have bz2 : wr.heap.size ≤ w2.heap.size := bz
          have T2 := htb.below (D := wr.heap.size) ((Below.refl _ wr).drew.trans b2) (Nat.le_refl _)
          obtain ⟨g1, g2, g4, g5⟩ := T2.cells (j := q) (by omega)
          refine hK.out _ _ S2 (fun _ => ?_)
          clear hK K
          refine wpAnyH_take (i := 14) (v := _) rfl (by kernel_rfl) (by kernel_rfl) (by kernel_rfl) (fun _ _ _ h => h) (Or.inl ⟨by rfl, fun w hSw => by (obtain ⟨s1, s2, s3, s4, s5⟩ := hSw; go_simp; try with_reducible rfl)⟩) S2 ?_
          refine wpAnyH_ready (rs := [15]) (by kernel_rfl) (by simp) (AllReadyH.cons rfl (fun K hK => ?_) AllReadyH.nil)
          go_simp
          refine hK.out _ _ ⟨?_, ?_, ?_, ?_, ?_⟩ (fun _ => ?_)
          · exact set2_cell _ _ _ _ _ _ _ (by simp) (by simp) S2.1
          · exact set2_cell _ _ _ _ _ _ _ (by simp) (by simp) S2.2.1
          · exact set2_cell _ _ _ _ _ _ _ (by simp <;> omega) (by simp <;> omega) S2.2.2.1
          · exact set2_cell _ _ _ _ _ _ _ (by simp <;> omega) (by simp <;> omega) S2.2.2.2.1
          · exact set2_cell _ _ _ _ _ _ _ (by simp <;> omega) (by simp <;> omega) S2.2.2.2.2
          clear hK K
          refine wpAnyH_done (by kernel_rfl) ?_ _
          gi_wp2
          have B2 : Below wr.heap.size wr w2 := (Below.refl wr.heap.size wr).drew.trans b2
          go_roundw
          case rel =>
            refine ⟨q + 1, by omega, .inr (by omega), by go_num, (set2_other _ _ _ _ _ _ (by omega)).trans (Boxed.below hP B2), (set2_other _ _ _ _ _ _ (by omega)).trans (Boxed.below hG B2), (set2_other _ _ _ _ _ _ (by omega)).trans (Boxed.below hT B2), (set2_other _ _ _ _ _ _ (by omega)).trans ((B2.block (N + 4) hsz).trans hI), ?_, hkf.trans ((kf_below B2).trans (set2_keeps _ _ _ _ _ _ _)), set2_below (hbw.trans (B2.mono (by omega))) (by omega) _ _ _ _, by simp [World.setCell]; omega⟩
            refine (T2.set (j := q) Z).congr fun j hj => ?_
            unfold drawTo
            by_cases e : j = q
            · subst e
              rw [if_pos rfl, if_pos (by omega), PH.out, PZ.out]
            · rw [if_neg e]
              by_cases h2 : j < q
              · rw [if_pos h2, if_pos (by omega)]
              · rw [if_neg h2, if_neg (by omega)]
          case measure => simp only [intOf]; omega
        · have PZ := Lib.hid (show drS k pp P R = P from if_neg hz)
          have NX : Hid (Dp wr (N + 2) (m + 1) (drawTo c k pp f (q + 1))) := Lib.hid (htb.congr fun j hj => by
            unfold drawTo
            by_cases e : j = q
            · subst e
              rw [if_neg (by omega), if_pos (by omega), PH.out, PZ.out, eP]
            · by_cases h2 : j < q
              · rw [if_pos h2, if_pos (by omega)]
              · rw [if_neg h2, if_neg (by omega)])
          obtain ⟨z0, ez0⟩ : ∃ y, P.k = y := ⟨_, rfl⟩
          obtain ⟨z1, ez1⟩ : ∃ y, P.t = y := ⟨_, rfl⟩
          rw [ez0] at x1 hz
          rw [ez1] at x2 hz
          clear OKp e1 e2 eP eR u1 u2 ez0 ez1 PZ PH
          by_cases hz0 : z0 = 0
          · subst hz0
            have hz1 : ((z1 : Int) == 0) = false := by rw [beq_eq_false_iff_ne]; omega
            have x1 : wr.cell? ⟨N + 2, q * 2, none⟩ = some (.int .i64 0) := x1
            clear hz
            gi_wp2
            go_roundw
            case rel => exact ⟨q + 1, by omega, .inr (by omega), by go_num, hP, hG, hT, hI, NX.out, hkf, hbw, hsz⟩
            case measure => simp only [intOf]; omega
          · have hz1 : ((z0 : Int) == 0) = false := by rw [beq_eq_false_iff_ne]; omega
            clear hz
            gi_wp2
            go_roundw
            case rel => exact ⟨q + 1, by omega, .inr (by omega), by go_num, hP, hG, hT, hI, NX.out, hkf, hbw, hsz⟩
            case measure => simp only [intOf]; omega
      · gi_wp2
        refine ⟨hkf, ⟨hbw, hI⟩, ⟨hP, hG, hT, hI.trans hS, ?_, hB.trans hbw⟩⟩
        rw [RS.out]
        refine htb.congr fun j hj => ?_
        unfold drawTo
        by_cases h2 : j < q
        · rw [if_pos h2]
        · rw [if_neg h2, pass_low (by omega)]
  case done =>
    rintro D ys W hD rfl ⟨hP, hG, hT, hS, hTb, hB⟩ hK
    have hvc := hT.cell
    have e1 := drF_to cs ps HLP.out cs.length (Nat.le_refl _)
    rw [Nat.sub_self, List.drop_zero, List.drop_zero] at e1
    have e2 : finTo (iL cs).length (iL cs).length = finTo (iL cs).length cs.length := by rw [← HLEN.out]
    rw [e2, e1] at hTb
    clear e1 e2
    gi_wp2
    refine ⟨by simp, .inl ⟨_, _, rfl, run_takeDeferred hK, ?_⟩⟩
    have hbe : Below N w (W.putObj D (.deferred none)) := hB.trans (belowK_b (w := Wl) (by omega) W D _ _ hD hK rfl rfl)
    refine ⟨_, (by simp [results, Try.results74, go_sem]), rfl, ?_, by first | exact hbe | (rw [hN]; exact hbe)⟩
    obtain ⟨cs', hcs', r⟩ := hTb
    exact ⟨cs', (World.putObj_heap_other (by omega)).trans (by rw [hN]; exact hcs'), r⟩
  case stop =>
    rintro D c pre W _ _ h _
    exact h.elim

theorem tableDrawn_any (cap b off pcap pb poff : Nat) (cs ps : List Nat) (m : Nat) (w : World) (hbl : b < w.heap.size) (hpb : pb < w.heap.size)
    (hcl : ∀ j, j < (iL cs).length → w.cell? ⟨b, off + j, none⟩ = some (.int .i64 ((iL cs).getD j 0))) (hpc : ∀ j, j < cs.length → w.cell? ⟨pb, poff + j, none⟩ = some (.int .i64 ((ps.getD j 0 : Nat) : Int))) (hp : Pos cs) (hlp : cs.length = ps.length) (hl : cs.length ≤ 8) (hm : m ≤ 1048576) (hcb : ∀ c ∈ cs, c ≤ 1048576) :
    Calls Try.prog 74 #[(.slice (some ⟨b, off, none⟩) (iL cs).length cap), (.slice (some ⟨pb, poff, none⟩) (iL cs).length pcap), .int .i64 (m : Int)] w fun e w' => e = .returned (.slice (some ⟨w.heap.size + 2, 0, none⟩) (m + 1) (m + 1)) ∧ Dp w' (w.heap.size + 2) (m + 1) (drT 0 cs ps) ∧ Below w.heap.size w w' :=
  callsIn_wide.1 (tableDrawn_in Fence.wide rfl 8 (fun _ => trivial) rfl (by omega) cap b off pcap pb poff cs ps m w hbl hpb hcl hpc hp hlp hl hm hcb)
end Go.Proofs.Ytdgadabfahmdmaa
