/-
  The program's table of how amounts are paid, filled: for each amount ways, fewest coins, first kind. Conditions: coins (perhaps none) of at least 1, an amount of at most 2^20.
-/
import Derived.Test.YtdgadabfahmdmaaVtw
namespace Go.Proofs.Ytdgadabfahmdmaa
open Go.RowKit Go.Shelf

attribute [local go_sem] Oper.semAt_some

theorem bk_iL (cs : List Nat) (j : Nat) (hj : j < cs.length) : bkF (iL cs) j = (((cs.length - 1 - j : Nat) : Int), ((cs.getD (cs.length - 1 - j) 0 : Nat) : Int)) := by
  unfold bkF
  rw [iL_len, iL_at]
  congr 1
  omega
/-- The rounds that came. -/
def rdn (cs : List Nat) (ks : List (Fin (iL cs).length)) : List (Nat × Nat) := ks.map fun k => (cs.length - 1 - k.1, cs.getD (cs.length - 1 - k.1) 0)
theorem rdn_snoc (cs : List Nat) (ks : List (Fin (iL cs).length)) (k : Fin (iL cs).length) : rdn cs (ks ++ [k]) = rdn cs ks ++ [(cs.length - 1 - k.1, cs.getD (cs.length - 1 - k.1) 0)] := by simp [rdn]
theorem rdn_in {cs : List Nat} (h : Pos cs) (ks : List (Fin (iL cs).length)) : ∀ p ∈ rdn cs ks, p.1 ≤ cs.length ∧ 1 ≤ p.2 := by
  intro p hp
  simp only [rdn, List.mem_map] at hp
  obtain ⟨k, _, rfl⟩ := hp
  have hk := k.2
  have hkl := iL_len cs
  exact ⟨by show cs.length - 1 - k.1 ≤ _; omega, h _ (at_mem (by omega))⟩
theorem drop_consN (cs : List Nat) (k : Nat) (h : k < cs.length) : cs.drop k = cs.getD k 0 :: cs.drop (k + 1) := by
  rw [List.drop_eq_getElem_cons h, List.getD_eq_getElem?_getD, List.getElem?_eq_getElem h]; rfl
theorem pdF_to (cs : List Nat) : ∀ k, k ≤ cs.length → pdF (rdn cs (finTo (iL cs).length k)) = pdT (cs.length - k) (cs.drop (cs.length - k)) := by
  intro k
  induction k with
  | zero => intro _; rw [Nat.sub_zero, List.drop_length]; rfl
  | succ k ih =>
    intro hk
    rw [finTo_succ (show k < (iL cs).length by rw [iL_len]; omega), rdn_snoc, pdF_snoc, ih (by omega)]
    have e : cs.length - k = (cs.length - (k + 1)) + 1 := by omega
    have e3 : cs.length - 1 - k = cs.length - (k + 1) := by omega
    have hd := drop_consN cs (cs.length - (k + 1)) (by omega)
    rw [hd, e]
    simp only [e3]
    rfl

/-- The loop's state: the boxes of the amount, the table and the iterator, and the table told so far. -/
structure TpJ (w : World) (N m : Nat) (cs : List Nat) (a : Option Addr) (cap : Nat) (pre : List (Fin (iL cs).length)) (W : World) : Prop where
  gr : Boxed W N 3 (.int .i64 (m : Int))
  box : Boxed W (N + 2) 52 (.slice (some ⟨N + 1, 0, none⟩) (m + 1) (m + 1))
  it : Boxed W (N + 3) 22 (.slice a (iL cs).length cap)
  tb : Tp W (N + 1) (m + 1) (pdF (rdn cs pre))
  bel : Below N w W
theorem tpJ_own {w : World} {N m : Nat} {cs : List Nat} {a : Option Addr} {cap : Nat} (B : Nat) (hN : N ≤ w.heap.size) (hB : N ≤ B) : OwnFrom B (TpJ w N m cs a cap) := by
  intro pre W W' row h hg hr
  obtain ⟨h1, h2, h3, h4, h5⟩ := h
  have keep : ∀ (k : Nat) (c : Array Value) (t : TypeId) (f : Nat × Nat), W.heap[k]? = some (.cells c t f) → W'.heap[k]? = some (.cells c t f) := fun k c t f hk => by
    refine (hg.block k (Array.getElem?_eq_some_iff.1 hk).1 (fun e => ?_)).trans hk
    obtain ⟨_, o, ho, hc⟩ := hr k e.symm
    rw [hk] at ho
    cases ho
    cases hc
  refine ⟨keep _ _ _ _ h1, keep _ _ _ _ h2, keep _ _ _ _ h3, ?_, ownFrom_below hN hB pre W W' row h5 hg hr⟩
  obtain ⟨c, hc, r⟩ := h4
  exact ⟨c, keep _ _ _ _ hc, r⟩

/-- The table while a kind's coins are put in: below the amount q it is told anew. -/
def passTo (c k : Nat) (f : Nat → Pd) (q j : Nat) : Pd := if j < q then pass c (fun _ x y => orW k x y) f j else f j

set_option maxRecDepth 100000 in
set_option maxHeartbeats 8000000 in
theorem tablePaid_in (F : Fence) (hFw : F = Fence.wide) (n : Nat) (hF : ∀ k, F.fn k) (hro : F.round = none) (hn : 5 ≤ n)
    (a : Option Addr) (cap b off : Nat) (cs : List Nat) (m : Nat) (w : World) (ha : 0 < (iL cs).length → a = some ⟨b, off, none⟩) (hbl : 0 < (iL cs).length → b < w.heap.size)
    (hcl : ∀ j, j < (iL cs).length → w.cell? ⟨b, off + j, none⟩ = some (.int .i64 ((iL cs).getD j 0))) (hp : Pos cs) (hl : cs.length ≤ 8) (hm : m ≤ 1048576) (hcb : ∀ c ∈ cs, c ≤ 1048576) :
    CallsIn F n Try.prog 62 #[.slice a (iL cs).length cap, .int .i64 (m : Int)] w fun e w' => e = .returned (.slice (some ⟨w.heap.size + 1, 0, none⟩) (m + 1) (m + 1)) ∧ Tp w' (w.heap.size + 1) (m + 1) (pdT 0 cs) ∧ Below w.heap.size w w' := by
  have h1 : 1 ≤ n := by omega
  have HFw := Lib.hid hFw
  have HP := Lib.hid hp
  have HCB := Lib.hid hcb
  have HCL := Lib.hid hcl
  have HA := Lib.hid ha
  have HBL := Lib.hid hbl
  have hlen := iL_len cs
  have HLEN := Lib.hid hlen
  have hl8 : (iL cs).length ≤ 8 := by omega
  have HL := Lib.hid hl
  obtain ⟨i0, hi, hz0, hz1, hz2⟩ := info_parts Try.infoP
  have hmk : ∀ w, (Instr.makeSlice 52 (.int .i64 ((m : Int) + 1)) (.int .i64 ((m : Int) + 1))).run Try.prog w = .ok (.slice (some ⟨w.heap.size, 0, none⟩) (m + 1) (m + 1)) (w.alloc (.cells (madeCells #[.int .i64 0, .int .i64 0, .int .i64 0] ((m + 1) * 3)) 51)) := fun w => by
    have h := run_make (P := Try.prog) w 52 51 i0 _ Try.underlying52 hi hz0 .i64 .i64 ((m : Int) + 1) ((m : Int) + 1) (by omega) (by omega) (by rw [hz2]; omega) (by omega)
    rw [show ((m : Int) + 1).toNat = m + 1 by omega, hz1] at h
    exact h
  have hm0 := made3_zero (m + 1) 0 (by omega)
  have hm1 := made3_zero (m + 1) 1 (by omega)
  have hm2 := made3_zero (m + 1) 2 (by omega)
  clear hcl hp hcb hFw ha hbl hi hz0 hz1 hz2 hlen hl
  refine callsIn_of_wp_marks Try.func62 rfl (hF _) ?_ hro
  simp only [Try.ntmps62, List.size_toArray, List.length_cons, List.length_nil, Nat.reduceAdd, Nat.reduceSub, Array.replicate_succ, Array.replicate_zero, List.push_toArray, List.append_toArray, List.nil_append, List.cons_append]
  gi_wp2_with (gi_at_call 58; refine (backward_in F (n - 1) (hF _) hro _ _ _ _).mono ?_; rintro e w' ⟨rfl, rfl⟩)
  have W0 : Below w.heap.size w ((((w.alloc (.cells #[.int .i64 (m : Int)] 3)).alloc (.cells ((((madeCells #[Value.int .i64 0, .int .i64 0, .int .i64 0] ((m + 1) * 3)).setIfInBounds 0 (.int .i64 1)).setIfInBounds 1 (.int .i64 0)).setIfInBounds 2 (.int .i64 0)) 51)).alloc (.cells #[.slice (some ⟨w.heap.size + 1, 0, none⟩) (m + 1) (m + 1)] 52)).alloc (.cells #[.slice a (iL cs).length cap] 22)) := ((((Below.refl _ _).alloc (Nat.le_refl _) _).alloc (by simp) _).alloc (by simp; omega) _).alloc (by simp; omega) _
  have hbG := ((((Boxed.new w 3 (.int .i64 (m : Int))).alloc (.cells ((((madeCells #[Value.int .i64 0, .int .i64 0, .int .i64 0] ((m + 1) * 3)).setIfInBounds 0 (.int .i64 1)).setIfInBounds 1 (.int .i64 0)).setIfInBounds 2 (.int .i64 0)) 51)).alloc (.cells #[.slice (some ⟨w.heap.size + 1, 0, none⟩) (m + 1) (m + 1)] 52)).alloc (.cells #[.slice a (iL cs).length cap] 22))
  have hT0 := ((tp_start (w.alloc (.cells #[.int .i64 (m : Int)] 3)) (m + 1) (by omega)).below ((Below.refl _ _).alloc (Nat.le_refl _) (.cells #[.slice (some ⟨w.heap.size + 1, 0, none⟩) (m + 1) (m + 1)] 52)) (Nat.le_refl _)).below ((Below.refl _ _).alloc (Nat.le_refl _) (.cells #[.slice a (iL cs).length cap] 22)) (Nat.le_refl _)
  have hbT := (Boxed.new ((w.alloc (.cells #[.int .i64 (m : Int)] 3)).alloc (.cells ((((madeCells #[Value.int .i64 0, .int .i64 0, .int .i64 0] ((m + 1) * 3)).setIfInBounds 0 (.int .i64 1)).setIfInBounds 1 (.int .i64 0)).setIfInBounds 2 (.int .i64 0)) 51)) 52 (.slice (some ⟨w.heap.size + 1, 0, none⟩) (m + 1) (m + 1))).alloc (.cells #[.slice a (iL cs).length cap] 22)
  have hbS := Boxed.new (((w.alloc (.cells #[.int .i64 (m : Int)] 3)).alloc (.cells ((((madeCells #[Value.int .i64 0, .int .i64 0, .int .i64 0] ((m + 1) * 3)).setIfInBounds 0 (.int .i64 1)).setIfInBounds 1 (.int .i64 0)).setIfInBounds 2 (.int .i64 0)) 51)).alloc (.cells #[.slice (some ⟨w.heap.size + 1, 0, none⟩) (m + 1) (m + 1)] 52)) 22 (.slice a (iL cs).length cap)
  simp only [World.size_alloc] at hbG hbT hbS hT0
  have hzl : ((((w.alloc (.cells #[.int .i64 (m : Int)] 3)).alloc (.cells ((((madeCells #[Value.int .i64 0, .int .i64 0, .int .i64 0] ((m + 1) * 3)).setIfInBounds 0 (.int .i64 1)).setIfInBounds 1 (.int .i64 0)).setIfInBounds 2 (.int .i64 0)) 51)).alloc (.cells #[.slice (some ⟨w.heap.size + 1, 0, none⟩) (m + 1) (m + 1)] 52)).alloc (.cells #[.slice a (iL cs).length cap] 22)).heap.size = w.heap.size + 1 + 1 + 1 + 1 := by simp
  obtain ⟨Wl, hWl⟩ : ∃ Wl, ((((w.alloc (.cells #[.int .i64 (m : Int)] 3)).alloc (.cells ((((madeCells #[Value.int .i64 0, .int .i64 0, .int .i64 0] ((m + 1) * 3)).setIfInBounds 0 (.int .i64 1)).setIfInBounds 1 (.int .i64 0)).setIfInBounds 2 (.int .i64 0)) 51)).alloc (.cells #[.slice (some ⟨w.heap.size + 1, 0, none⟩) (m + 1) (m + 1)] 52)).alloc (.cells #[.slice a (iL cs).length cap] 22)) = Wl := ⟨_, rfl⟩
  rw [hWl] at W0 hbG hbT hbS hT0 hzl ⊢
  obtain ⟨N, hN⟩ : ∃ N, w.heap.size = N := ⟨_, rfl⟩
  rw [hN] at W0 hbG hbT hbS hT0 hzl HBL ⊢
  have hcs : ∀ j, j < (iL cs).length → Wl.cell? ⟨b, off + j, none⟩ = some (.int .i64 ((iL cs).getD j 0)) := fun j hj => (W0.cell (p := ⟨b, off + j, none⟩) (HBL.out (by omega))).trans (HCL.out j hj)
  clear hWl hmk hm0 hm1 hm2
  refine wpIn_rangeFunc_ownG hro h1 (gf := 85) (lb := #[.pointer (some ⟨N + 1 + 1 + 1, 0, none⟩)]) rfl (hF _) (enters_of Try.func85 (by kernel_rfl) rfl)
    (back_stops F (n - 1) (hF _) hro (by omega) (N + 1 + 1 + 1) N b off cap a (iL cs) HA.out (by omega) Wl HBL.out (by omega) (by omega) hbS.cell hcs) KpB.trans (kpB_b (by omega) (by omega)) (Below.refl _ _) (fun _ => rfl)
    (TpJ w N m cs a cap)
    (fun _ _ _ => False)
    (tpJ_own _ (by omega) (by omega))
    (fun _ _ _ _ _ hs _ _ => hs)
    ⟨hbG, hbT, hbS, hT0, W0⟩
    (fun x => { tmps := #[.slice a (iL cs).length cap, .int .i64 (m : Int), undef, .pointer (some ⟨N, 0, none⟩), .slice none 0 0, .pointer (some ⟨N + 1 + 1, 0, none⟩), .int .i64 (bkF (iL cs) x.1).1, .int .i64 (bkF (iL cs) x.1).2, undef, .int .i64 (m : Int), .int .i64 ((m : Int) + 1), .slice (some ⟨N + 1, 0, none⟩) (m + 1) (m + 1), .slice (some ⟨N + 1, 0, none⟩) (m + 1) (m + 1), .agg #[.int .i64 1, .int .i64 0, .int .i64 0], .pointer (some ⟨N + 1, 0, none⟩), .slice a (iL cs).length cap, .func (.func 85) #[] #[.pointer (some ⟨N + 1 + 1 + 1, 0, none⟩)], .int .i64 (bkF (iL cs) x.1).1, .int .i64 (bkF (iL cs) x.1).2, undef, undef, undef, undef, undef, undef, undef, undef, undef, undef, undef, undef, undef, undef, undef, undef, undef, undef, undef, undef, undef, undef], defers := [] }) ?assign ?body ?done ?stop
  case assign =>
    intro l x W K hK
    gi_wp2
    exact hK
  case body =>
    rintro l' pre x W ⟨hG, hT, hS, hTb, hB⟩ hlt
    have HFW := HFw.out
    subst HFW
    have hxl := x.2
    have RS := rdn_snoc cs pre x
    have hpo : ∀ p ∈ rdn cs pre, p.1 ≤ 8 ∧ 1 ≤ p.2 := fun p hpp => by have := rdn_in HP.out pre p hpp; have := HL.out; omega
    have hbk : bkF (iL cs) x.1 = (((cs.length - 1 - x.1 : Nat) : Int), ((cs.getD (cs.length - 1 - x.1) 0 : Nat) : Int)) := by
      exact bk_iL cs x.1 (by have := HLEN.out; omega)
    have hc1 := HP.out _ (at_mem (cs := cs) (j := cs.length - 1 - x.1) (by have := HLEN.out; omega))
    have hc2 := HCB.out _ (at_mem (cs := cs) (j := cs.length - 1 - x.1) (by have := HLEN.out; omega))
    have hk8 : cs.length - 1 - x.1 ≤ 8 := by have := HL.out; omega
    rw [hbk]
    obtain ⟨k, ek⟩ : ∃ k, cs.length - 1 - x.1 = k := ⟨_, rfl⟩
    rw [ek] at hc1 hc2 hk8 RS ⊢
    obtain ⟨c, ec⟩ : ∃ c, cs.getD k 0 = c := ⟨_, rfl⟩
    rw [ec] at hc1 hc2 RS ⊢
    have PF := Lib.hid (pdF_ok hpo)
    have RS := Lib.hid (show pdF (rdn cs (pre ++ [x])) = pass c (fun _ x y => orW k x y) (pdF (rdn cs pre)) by rw [RS, pdF_snoc])
    obtain ⟨f, ef⟩ : ∃ f, pdF (rdn cs pre) = f := ⟨_, rfl⟩
    rw [ef] at PF RS hTb
    have hgc := hG.cell
    have hBz := hB.size
    rw [hN] at hBz
    have hSl := hS.lt
    clear hbk ek ec ef hpo
    gi_wp2
    gi_loopw [8] (fun i wr => ∃ q : Nat, c ≤ q ∧ (q ≤ c ∨ q ≤ m + 1) ∧ i = .int .i64 (q : Int) ∧ Boxed wr N 3 (.int .i64 (m : Int)) ∧ Boxed wr (N + 2) 52 (.slice (some ⟨N + 1, 0, none⟩) (m + 1) (m + 1)) ∧ wr.heap[N + 3]? = W.heap[N + 3]? ∧ Tp wr (N + 1) (m + 1) (passTo c k f q) ∧ KeepsFrom Wl.heap.size W wr ∧ Below N W wr ∧ N + 3 < wr.heap.size) (fun i _ => m + 1 - (intOf i).toNat)
    case atStart =>
      exact ⟨c, Nat.le_refl _, .inl (Nat.le_refl _), rfl, hG, hT, rfl, hTb.congr (fun j hj => by
        unfold passTo
        split
        · rename_i h; rw [pass_low h]
        · rfl), KeepsFrom.refl _ _, Below.refl _ _, hSl⟩
    case round =>
      obtain ⟨q, hq1, hq2, rfl, hG, hT, hI, htb, hkf, hbw, hsz⟩ := hrel
      have hgc := hG.cell
      have htc := hT.cell
      by_cases hqm : q ≤ m
      · have OKq := PF.out q
        have OKp := PdOk.pass (f := f) hk8 hc1 PF.out (q - c)
        have OR := Lib.hid (orW_any (f q) (pass c (fun _ x y => orW k x y) f (q - c)) k wr.drew OKq OKp (by omega) (by omega))
        have PH := Lib.hid (pass_high (s := fun _ x y => orW k x y) (f := f) hc1 hq1)
        have e1 : passTo c k f q q = f q := by simp [passTo]
        have e2 : passTo c k f q (q - c) = pass c (fun _ x y => orW k x y) f (q - c) := by unfold passTo; rw [if_pos (by omega)]
        obtain ⟨x1, x2, x3, x4, x5, x6⟩ := htb.cells (j := q) (by omega)
        obtain ⟨u1, u2, u3, _, _, _⟩ := htb.cells (j := q - c) (by omega)
        rw [e1] at x1 x2 x3
        rw [e2] at u1 u2 u3
        obtain ⟨P, eP⟩ : ∃ P, f q = P := ⟨_, rfl⟩
        obtain ⟨R, eR⟩ : ∃ R, pass c (fun _ x y => orW k x y) f (q - c) = R := ⟨_, rfl⟩
        rw [eP] at x1 x2 x3 OR PH
        rw [eR] at u1 u2 u3 OR PH
        obtain ⟨Z, eZ⟩ : ∃ Z, orW k P R = Z := ⟨_, rfl⟩
        rw [eZ] at OR PH
        obtain ⟨y0, ey0⟩ : ∃ y, R.w = y := ⟨_, rfl⟩
        obtain ⟨y1, ey1⟩ : ∃ y, R.f = y := ⟨_, rfl⟩
        obtain ⟨y2, ey2⟩ : ∃ y, R.k = y := ⟨_, rfl⟩
        rw [ey0] at u1
        rw [ey1] at u2
        rw [ey2] at u3
        simp only [pdV, ey0, ey1, ey2] at OR
        clear OKq OKp e1 e2 eP eR eZ ey0 ey1 ey2
        have j0 : (0 : Int) ≤ (q : Int) - c := by omega
        have j1 : (q : Int) - c < (m : Int) + 1 := by omega
        have j2 : ((q : Int) - c).toNat = q - c := by omega
        have j3 : (q : Int) < (m : Int) + 1 := by omega
        have j4 : (0 : Int) ≤ q := by omega
        have jw : IntKind.i64.wrap ((q : Int) - c) = (q : Int) - c := IntWalk.i64_in _ (by omega)
        have S0 : wr.drew.cell? ⟨N + 2, 0, none⟩ = some (.slice (some ⟨N + 1, 0, none⟩) (m + 1) (m + 1)) ∧ wr.drew.cell? ⟨N + 1, (q - c) * 3, none⟩ = some (.int .i64 (y0 : Int)) ∧ wr.drew.cell? ⟨N + 1, (q - c) * 3 + 1, none⟩ = some (.int .i64 (y1 : Int)) ∧ wr.drew.cell? ⟨N + 1, (q - c) * 3 + 2, none⟩ = some (.int .i64 (y2 : Int)) := ⟨htc, u1, u2, u3⟩
        have X1 : wr.drew.cell? ⟨N + 1, q * 3, none⟩ = some (.int .i64 (P.w : Int)) := x1
        have X2 : wr.drew.cell? ⟨N + 1, q * 3 + 1, none⟩ = some (.int .i64 (P.f : Int)) := x2
        have X3 : wr.drew.cell? ⟨N + 1, q * 3 + 2, none⟩ = some (.int .i64 (P.k : Int)) := x3
        gi_wp2
        refine region_wide (S := fun w' => w'.cell? ⟨N + 2, 0, none⟩ = some (.slice (some ⟨N + 1, 0, none⟩) (m + 1) (m + 1)) ∧ w'.cell? ⟨N + 1, (q - c) * 3, none⟩ = some (.int .i64 (y0 : Int)) ∧ w'.cell? ⟨N + 1, (q - c) * 3 + 1, none⟩ = some (.int .i64 (y1 : Int)) ∧ w'.cell? ⟨N + 1, (q - c) * 3 + 2, none⟩ = some (.int .i64 (y2 : Int))) (by rintro ⟨_, _, h⟩; first | exact h | (simp at h)) (by kernel_rfl) (by intro i o c h; rcases i with _ | _ | _ | _ | _ | _ | _ | _ | _ | _ | _ | _ | _ | _ | _ | _ | i <;> simp at h <;> subst h <;> simp) ?_
        refine wpAnyH_take (i := 0) (v := _) rfl (by kernel_rfl) (by kernel_rfl) (by kernel_rfl) (fun _ _ _ h => h) (Or.inl ⟨by rfl, fun w hSw => by (obtain ⟨s1, s2, s3, s4⟩ := hSw; go_simp; try with_reducible rfl)⟩) S0 ?_
        refine wpAnyH_take (i := 1) (v := _) rfl (by kernel_rfl) (by kernel_rfl) (by kernel_rfl) (fun _ _ _ h => h) (Or.inl ⟨by rfl, fun w hSw => by (obtain ⟨s1, s2, s3, s4⟩ := hSw; go_simp; try with_reducible rfl)⟩) S0 ?_
        refine wpAnyH_take (i := 2) (v := _) rfl (by kernel_rfl) (by kernel_rfl) (by kernel_rfl) (fun _ _ _ h => h) (Or.inl ⟨by rfl, fun w hSw => by (obtain ⟨s1, s2, s3, s4⟩ := hSw; go_simp; try with_reducible rfl)⟩) S0 ?_
        refine wpAnyH_take (i := 3) (v := _) rfl (by kernel_rfl) (by kernel_rfl) (by kernel_rfl) (fun _ _ _ h => h) (Or.inl ⟨by rfl, fun w hSw => by (obtain ⟨s1, s2, s3, s4⟩ := hSw; go_simp; try with_reducible rfl)⟩) S0 ?_
        refine wpAnyH_take (i := 4) (v := _) rfl (by kernel_rfl) (by kernel_rfl) (by kernel_rfl) (fun _ _ _ h => h) (Or.inl ⟨by rfl, fun w hSw => by (obtain ⟨s1, s2, s3, s4⟩ := hSw; go_simp; try with_reducible rfl)⟩) S0 ?_
        refine wpAnyH_take (i := 6) (v := _) rfl (by kernel_rfl) (by kernel_rfl) (by kernel_rfl) (fun _ _ _ h => h) (Or.inl ⟨by rfl, fun w hSw => by (obtain ⟨s1, s2, s3, s4⟩ := hSw; go_simp; try with_reducible rfl)⟩) S0 ?_
        refine wpAnyH_take (i := 7) (v := _) rfl (by kernel_rfl) (by kernel_rfl) (by kernel_rfl) (fun _ _ _ h => h) (Or.inl ⟨by rfl, fun w hSw => by (obtain ⟨s1, s2, s3, s4⟩ := hSw; go_simp; try with_reducible rfl)⟩) S0 ?_
        refine wpAnyH_take (i := 8) (v := _) rfl (by kernel_rfl) (by kernel_rfl) (by kernel_rfl) (fun _ _ _ h => h) (Or.inl ⟨by rfl, fun w hSw => by (obtain ⟨s1, s2, s3, s4⟩ := hSw; go_simp; try with_reducible rfl)⟩) S0 ?_
        refine wpAnyH_take (i := 9) (v := _) rfl (by kernel_rfl) (by kernel_rfl) (by kernel_rfl) (fun _ _ _ h => h) (Or.inl ⟨by rfl, fun w hSw => by (obtain ⟨s1, s2, s3, s4⟩ := hSw; go_simp; try with_reducible rfl)⟩) S0 ?_
        refine wpAnyH_take (i := 10) (v := _) rfl (by kernel_rfl) (by kernel_rfl) (by kernel_rfl) (fun _ _ _ h => h) (Or.inl ⟨by rfl, fun w hSw => by (obtain ⟨s1, s2, s3, s4⟩ := hSw; go_simp; try with_reducible rfl)⟩) S0 ?_
        refine wpAnyH_take (i := 11) (v := _) rfl (by kernel_rfl) (by kernel_rfl) (by kernel_rfl) (fun _ _ _ h => h) (Or.inl ⟨by rfl, fun w hSw => by (obtain ⟨s1, s2, s3, s4⟩ := hSw; go_simp; try with_reducible rfl)⟩) S0 ?_
        refine wpAnyH_take (i := 12) (v := _) rfl (by kernel_rfl) (by kernel_rfl) (by kernel_rfl) (fun _ _ _ h => h) (Or.inl ⟨by rfl, fun w hSw => by (obtain ⟨s1, s2, s3, s4⟩ := hSw; go_simp; try with_reducible rfl)⟩) S0 ?_
        refine wpAnyH_ready (rs := [5]) (by kernel_rfl) (by simp) (AllReadyH.cons rfl (fun K hK => ?_) AllReadyH.nil)
        go_simp
        refine hK.out _ _ S0 (fun _ => ?_)
        clear hK K
        refine wpAnyH_ready (rs := [13]) (by kernel_rfl) (by simp) (AllReadyH.cons rfl (fun K hK => ?_) AllReadyH.nil)
        go_simp
        go_at_call 87
        refine OR.out.mono ?_
        rintro e w2 ⟨rfl, b2⟩
        have S2 : w2.cell? ⟨N + 2, 0, none⟩ = some (.slice (some ⟨N + 1, 0, none⟩) (m + 1) (m + 1)) ∧ w2.cell? ⟨N + 1, (q - c) * 3, none⟩ = some (.int .i64 (y0 : Int)) ∧ w2.cell? ⟨N + 1, (q - c) * 3 + 1, none⟩ = some (.int .i64 (y1 : Int)) ∧ w2.cell? ⟨N + 1, (q - c) * 3 + 2, none⟩ = some (.int .i64 (y2 : Int)) := ⟨(b2.cell (p := ⟨N + 2, 0, none⟩) (by show N + 2 < wr.heap.size; omega)).trans S0.1, (b2.cell (p := ⟨N + 1, (q - c) * 3, none⟩) (by show N + 1 < wr.heap.size; omega)).trans S0.2.1, (b2.cell (p := ⟨N + 1, (q - c) * 3 + 1, none⟩) (by show N + 1 < wr.heap.size; omega)).trans S0.2.2.1, (b2.cell (p := ⟨N + 1, (q - c) * 3 + 2, none⟩) (by show N + 1 < wr.heap.size; omega)).trans S0.2.2.2⟩
        have bz := b2.size
        have bz2 : wr.heap.size ≤ w2.heap.size := bz
        have T2 := htb.below (D := wr.heap.size) ((Below.refl _ wr).drew.trans b2) (Nat.le_refl _)
        obtain ⟨g1, g2, g3, g4, g5, g6⟩ := T2.cells (j := q) (by omega)
        refine hK.out _ _ S2 (fun _ => ?_)
        clear hK K
        refine wpAnyH_take (i := 14) (v := _) rfl (by kernel_rfl) (by kernel_rfl) (by kernel_rfl) (fun _ _ _ h => h) (Or.inl ⟨by rfl, fun w hSw => by (obtain ⟨s1, s2, s3, s4⟩ := hSw; go_simp; try with_reducible rfl)⟩) S2 ?_
        refine wpAnyH_ready (rs := [15]) (by kernel_rfl) (by simp) (AllReadyH.cons rfl (fun K hK => ?_) AllReadyH.nil)
        go_simp
        refine hK.out _ _ ⟨?_, ?_, ?_, ?_⟩ (fun _ => ?_)
        · simp [World.cell?_setCell_other, S2.1]
        · exact set3_cell _ _ _ _ _ _ _ _ _ (by omega) (by omega) (by omega) S2.2.1
        · exact set3_cell _ _ _ _ _ _ _ _ _ (by omega) (by omega) (by omega) S2.2.2.1
        · exact set3_cell _ _ _ _ _ _ _ _ _ (by omega) (by omega) (by omega) S2.2.2.2
        clear hK K
        refine wpAnyH_done (by kernel_rfl) ?_ _
        gi_wp2
        have B2 : Below wr.heap.size wr w2 := (Below.refl wr.heap.size wr).drew.trans b2
        go_roundw
        case rel =>
          refine ⟨q + 1, by omega, .inr (by omega), by go_num, (set3_other _ _ _ _ _ _ _ _ (by omega)).trans (Boxed.below hG B2), (set3_other _ _ _ _ _ _ _ _ (by omega)).trans (Boxed.below hT B2), (set3_other _ _ _ _ _ _ _ _ (by omega)).trans ((B2.block (N + 3) hsz).trans hI), ?_, hkf.trans ((kf_below B2).trans (set3_keeps _ _ _ _ _ _ _ _ _)), set3_below (hbw.trans (B2.mono (by omega))) (by omega) _ _ _ _ _ _, by simp [World.setCell]; omega⟩
          refine (T2.set (j := q) Z).congr fun j hj => ?_
          unfold passTo
          by_cases e : j = q
          · subst e
            rw [if_pos rfl, if_pos (by omega), PH.out]
          · rw [if_neg e]
            by_cases h2 : j < q
            · rw [if_pos h2, if_pos (by omega)]
            · rw [if_neg h2, if_neg (by omega)]
        case measure => simp only [intOf]; omega
      · gi_wp2
        refine ⟨hkf, ⟨hbw, hI⟩, ⟨hG, hT, hI.trans hS, ?_, hB.trans hbw⟩⟩
        rw [RS.out]
        refine htb.congr fun j hj => ?_
        unfold passTo
        by_cases h2 : j < q
        · rw [if_pos h2]
        · rw [if_neg h2, pass_low (by omega)]
  case done =>
    rintro D ys W hD rfl ⟨hG, hT, hS, hTb, hB⟩ hK
    have hvc := hT.cell
    have e1 := pdF_to cs cs.length (Nat.le_refl _)
    rw [Nat.sub_self, List.drop_zero] at e1
    have e2 : finTo (iL cs).length (iL cs).length = finTo (iL cs).length cs.length := by rw [← HLEN.out]
    rw [e2, e1] at hTb
    clear e1 e2
    gi_wp2
    refine ⟨by simp, .inl ⟨_, _, rfl, run_takeDeferred hK, ?_⟩⟩
    have hbe : Below N w (W.putObj D (.deferred none)) := hB.trans (belowK_b (w := Wl) (by omega) W D _ _ hD hK rfl rfl)
    refine ⟨_, (by simp [results, Try.results62, go_sem]), rfl, ?_, by first | exact hbe | (rw [hN]; exact hbe)⟩
    obtain ⟨cs', hcs', r⟩ := hTb
    exact ⟨cs', (World.putObj_heap_other (by omega)).trans (by rw [hN]; exact hcs'), r⟩
  case stop =>
    rintro D c pre W _ _ h _
    exact h.elim

theorem tablePaid_any (a : Option Addr) (cap : Nat) (cs : List Nat) (m : Nat) (w : World) (h : Sv w (.slice a (iL cs).length cap) (iL cs)) (hp : Pos cs) (hl : cs.length ≤ 8) (hm : m ≤ 1048576) (hcb : ∀ c ∈ cs, c ≤ 1048576) :
    Calls Try.prog 62 #[.slice a (iL cs).length cap, .int .i64 (m : Int)] w fun e w' => e = .returned (.slice (some ⟨w.heap.size + 1, 0, none⟩) (m + 1) (m + 1)) ∧ Tp w' (w.heap.size + 1) (m + 1) (pdT 0 cs) ∧ Below w.heap.size w w' := by
  obtain ⟨p, c2, hv, hx⟩ := h
  simp only [Value.slice.injEq, true_and] at hv
  obtain ⟨rfl, rfl⟩ := hv
  by_cases h0 : 0 < (iL cs).length
  · obtain ⟨b, off, ha, hb, hc⟩ := hx h0
    exact callsIn_wide.1 (tablePaid_in Fence.wide rfl 8 (fun _ => trivial) rfl (by omega) a cap b off cs m w (fun _ => ha) (fun _ => hb) hc hp hl hm hcb)
  · exact callsIn_wide.1 (tablePaid_in Fence.wide rfl 8 (fun _ => trivial) rfl (by omega) a cap 0 0 cs m w (fun h => (h0 h).elim) (fun h => (h0 h).elim) (fun j hj => by omega) hp hl hm hcb)
end Go.Proofs.Ytdgadabfahmdmaa
