/-
  What greedy change takes next: the greatest coin that is at most what is left, as often as it can; the program's closure, by its contract. Conditions: coins; what is left is at most 2^20.
-/
import Derived.Test.YtdgadabfahmdmaaVtp
import Derived.Test.YtdgadabfahmdmaaVmu
import Derived.Test.YtdgadabfahmdmaaVcu
namespace Go.Proofs.Ytdgadabfahmdmaa
open Go.RowKit Go.Shelf

attribute [local go_sem] Oper.semAt_some

/-- The kinds that come next, looked for from the kind j - 1 down. -/
def gsc (cs : List Nat) (l : Nat) : Nat → List Nat
  | 0 => []
  | j + 1 => if cs.getD j 0 ≤ l then List.replicate (l / cs.getD j 0) j else gsc cs l j
def gstep (cs : List Nat) (l : Nat) : List Nat := gsc cs l cs.length
theorem gsc_skip {cs : List Nat} {l : Nat} : ∀ (k : Nat), k ≤ cs.length → (∀ i, i < k → l < cs.getD (cs.length - 1 - i) 0) → gsc cs l cs.length = gsc cs l (cs.length - k) := by
  intro k
  induction k with
  | zero => intro _ _; rfl
  | succ k ih =>
    intro hk h
    rw [ih (by omega) fun i hi => h i (by omega)]
    have e : cs.length - k = (cs.length - (k + 1)) + 1 := by omega
    rw [e, gsc, if_neg]
    have := h k (by omega)
    rw [show cs.length - 1 - k = cs.length - (k + 1) by omega] at this
    omega
/-- What came is greater than what is left. -/
def LowT (cs : List Nat) (l : Nat) (pre : List (Fin (iL cs).length)) : Prop := ∀ x ∈ pre, l < cs.getD (cs.length - 1 - x.1) 0
theorem finTo_all {n : Nat} : ∀ k, k ≤ n → ∀ i (h : i < n), i < k → (⟨i, h⟩ : Fin n) ∈ finTo n k := by
  intro k
  induction k with
  | zero => intro _ i _ h; omega
  | succ k ih =>
    intro hk i hi hlt
    rw [finTo_succ (by omega)]
    by_cases e : i = k
    · subst e; simp
    · have := ih (by omega) i hi (by omega); simp [this]
theorem low_skip {cs : List Nat} {l k : Nat} (hk : k ≤ cs.length) (h : LowT cs l (finTo (iL cs).length k)) : gstep cs l = gsc cs l (cs.length - k) := by
  have hl := iL_len cs
  exact gsc_skip k hk fun i hi => h ⟨i, by omega⟩ (finTo_all k (by omega) i (by omega) hi)
theorem finTo_last {n k : Nat} {pre : List (Fin n)} {x : Fin n} (hk : k ≤ n) (h : pre ++ [x] = finTo n k) : ∃ j, k = j + 1 ∧ pre = finTo n j ∧ x.1 = j := by
  cases k with
  | zero => simp [finTo] at h
  | succ j =>
    rw [finTo_succ (by omega)] at h
    have h1 := List.append_inj' h rfl
    refine ⟨j, rfl, h1.1, ?_⟩
    have := h1.2
    simp only [List.cons.injEq, and_true] at this
    rw [this]

theorem coinsOfKind_any (k t : Nat) (w : World) (ht : t ≤ 1048576) :
    Calls Try.prog 59 #[.int .i64 (k : Int), .int .i64 (t : Int)] w fun e w' => e = .returned (.slice (some ⟨w.heap.size + 1, 0, none⟩) t t) ∧ Ow w' w.heap.size (.slice (some ⟨w.heap.size + 1, 0, none⟩) t t) (iL (List.replicate t k)) ∧ Below w.heap.size w w' := by
  have RP := repeat_any w.heap.size (k : Int) t (w.alloc (.cells #[.int .i64 (k : Int)] 3)) (by simp) (by have := heap_alloc_new w (.cells #[.int .i64 (k : Int)] 3); simp only [World.cell?, this]; rfl) ht
  have RP := Lib.hid RP
  have HR : Hid (iL (List.replicate t k) = List.replicate t (k : Int)) := Lib.hid (by simp [iL])
  go_enter Try.func59, Try.ntmps59
  go_wp2_with fail
  refine RP.out.mono ?_
  rintro e w2 ⟨rfl, ho, hb⟩
  simp only [World.size_alloc] at ho
  go_wp2_with fail
  go_ret
  refine ⟨by simp, ?_, ((Below.refl _ w).alloc (Nat.le_refl _) _).trans (hb.mono (by simp))⟩
  rw [HR.out]
  exact ho.mono (by omega)

theorem ow_own {W W' : World} {B : Nat} {u : Value} {ys : List Int} {row : Option Nat} (h : Ow W B u ys) (hg : W.grownBy W' row) (hr : ∀ r, row = some r → ∃ o : Obj, W.heap[r]? = some o ∧ o.isCells = false) : Ow W' B u ys := by
  obtain ⟨h1, h2⟩ := h
  refine ⟨h1, ?_⟩
  rcases h2 with h2 | ⟨g, cap, cur, hv, hB, hh, r⟩
  · exact .inl h2
  · refine .inr ⟨g, cap, cur, hv, hB, ?_, r⟩
    refine (hg.block g (Array.getElem?_eq_some_iff.1 hh).1 (fun e => ?_)).trans hh
    obtain ⟨o, ho, hc⟩ := hr g e.symm
    rw [hh] at ho
    cases ho
    cases hc
theorem boxed_ownrow {W W' : World} {g : Nat} {t : TypeId} {v : Value} {row : Option Nat} (h : Boxed W g t v) (hg : W.grownBy W' row) (hr : ∀ r, row = some r → ∃ o : Obj, W.heap[r]? = some o ∧ o.isCells = false) : Boxed W' g t v := by
  refine (hg.block g h.lt (fun e => ?_)).trans h
  obtain ⟨o, ho, hc⟩ := hr g e.symm
  rw [show W.heap[g]? = _ from h] at ho
  cases ho
  cases hc

theorem grown_set (w : World) (a : Addr) (v : Value) : w.grownBy (w.setCell a v) (some a.block) :=
  ⟨rfl, rfl, rfl, by simp [World.setCell], fun i _ hne => blk_other _ _ _ (by intro e; exact hne (by rw [e]))⟩
structure GsJ (w : World) (N l b off cap : Nat) (cs : List Nat) (pre : List (Fin (iL cs).length)) (W : World) : Prop where
  lx : Boxed W N 3 (.int .i64 (l : Int))
  res : Boxed W (N + 1) 22 (.slice none 0 0)
  it : Boxed W (N + 2) 22 (.slice (some ⟨b, off, none⟩) (iL cs).length cap)
  bel : Below N w W
  low : LowT cs l pre
structure GsX (w : World) (N l : Nat) (cs : List Nat) (pre : List (Fin (iL cs).length)) (W : World) : Prop where
  ex : ∃ (pre' : List (Fin (iL cs).length)) (x : Fin (iL cs).length) (u : Value), pre = pre' ++ [x] ∧ LowT cs l pre' ∧ cs.getD (cs.length - 1 - x.1) 0 ≤ l ∧ Boxed W (N + 1) 22 u ∧ Ow W N u (iL (List.replicate (l / cs.getD (cs.length - 1 - x.1) 0) (cs.length - 1 - x.1)))
  bel : Below N w W
theorem gsJ_own {w : World} {N l b off cap : Nat} {cs : List Nat} (B : Nat) (hN : N ≤ w.heap.size) (hB : N ≤ B) : OwnFrom B (GsJ w N l b off cap cs) := by
  intro pre W W' row h hg hr
  obtain ⟨h1, h2, h3, h4, h5⟩ := h
  have hr2 : ∀ r, row = some r → ∃ o : Obj, W.heap[r]? = some o ∧ o.isCells = false := fun r e => (hr r e).2
  exact ⟨boxed_ownrow h1 hg hr2, boxed_ownrow h2 hg hr2, boxed_ownrow h3 hg hr2, ownFrom_below hN hB pre W W' row h4 hg hr, h5⟩
theorem gsX_own {w : World} {N l : Nat} {cs : List Nat} (c : Code) (B : Nat) (hN : N ≤ w.heap.size) (hB : N ≤ B) : OwnFrom B (fun pre W => c = .ret ∧ GsX w N l cs pre W) := by
  intro pre W W' row h hg hr
  obtain ⟨h0, ⟨pre', x, u, h1, h2, h3, h4, h5⟩, h6⟩ := h
  have hr2 : ∀ r, row = some r → ∃ o : Obj, W.heap[r]? = some o ∧ o.isCells = false := fun r e => (hr r e).2
  exact ⟨h0, ⟨pre', x, u, h1, h2, h3, boxed_ownrow h4 hg hr2, ow_own h5 hg hr2⟩, ownFrom_below hN hB pre W W' row h6 hg hr⟩

set_option maxRecDepth 100000 in
set_option maxHeartbeats 8000000 in
theorem gnext_in (F : Fence) (n : Nat) (hF : ∀ k, F.fn k) (hro : F.round = none) (hn : 5 ≤ n) (hW : ∀ (k f : Nat) (args : Array Value) (w : World) (R : Ending → World → Prop), Calls Try.prog f args w R → CallsIn F k Try.prog f args w R)
    (C l cap b off : Nat) (cs : List Nat) (w : World) (hC : Boxed w C 22 (.slice (some ⟨b, off, none⟩) (iL cs).length cap)) (hbl : b < w.heap.size)
    (hcl : ∀ j, j < (iL cs).length → w.cell? ⟨b, off + j, none⟩ = some (.int .i64 ((iL cs).getD j 0))) (hp : Pos cs) (hl8 : cs.length ≤ 8) (hl : l ≤ 1048576) :
    CallsIn F n Try.prog 57 #[.int .i64 (l : Int), .pointer (some ⟨C, 0, none⟩)] w fun e w' => ∃ u, e = .returned u ∧ Ow w' w.heap.size u (iL (gstep cs l)) ∧ Below w.heap.size w w' := by
  have h1 : 1 ≤ n := by omega
  have h1m : 1 ≤ n - 1 - 1 := by omega
  have HP := Lib.hid hp
  have HCL := Lib.hid hcl
  have hlen := iL_len cs
  have HLEN := Lib.hid hlen
  have hl8' : (iL cs).length ≤ 8 := by omega
  have HL := Lib.hid hl8
  have hCl := hC.lt
  have x1 : ((w.alloc (.cells #[.int .i64 (l : Int)] 3)).alloc (.cells #[.slice none 0 0] 22)).cell? ⟨C, 0, none⟩ = some (.slice (some ⟨b, off, none⟩) (iL cs).length cap) := ((hC.alloc _).alloc _).cell
  clear hcl hp hlen hl8
  refine callsIn_of_wp_marks Try.func57 rfl (hF _) ?_ hro
  simp only [Try.ntmps57, List.size_toArray, List.length_cons, List.length_nil, Nat.reduceAdd, Nat.reduceSub, Array.replicate_succ, Array.replicate_zero, List.push_toArray, List.append_toArray, List.nil_append, List.cons_append]
  gi_wp2_with (gi_at_call 58; refine (backward_in F (n - 1) (hF _) hro _ _ _ _).mono ?_; rintro e w' ⟨rfl, rfl⟩)
  have W0 : Below w.heap.size w (((w.alloc (.cells #[.int .i64 (l : Int)] 3)).alloc (.cells #[.slice none 0 0] 22)).alloc (.cells #[.slice (some ⟨b, off, none⟩) (iL cs).length cap] 22)) := (((Below.refl _ _).alloc (Nat.le_refl _) _).alloc (by simp) _).alloc (by simp; omega) _
  have hbG := ((Boxed.new w 3 (.int .i64 (l : Int))).alloc (.cells #[.slice none 0 0] 22)).alloc (.cells #[.slice (some ⟨b, off, none⟩) (iL cs).length cap] 22)
  have hbT := (Boxed.new (w.alloc (.cells #[.int .i64 (l : Int)] 3)) 22 (.slice none 0 0)).alloc (.cells #[.slice (some ⟨b, off, none⟩) (iL cs).length cap] 22)
  have hbS := Boxed.new ((w.alloc (.cells #[.int .i64 (l : Int)] 3)).alloc (.cells #[.slice none 0 0] 22)) 22 (.slice (some ⟨b, off, none⟩) (iL cs).length cap)
  simp only [World.size_alloc] at hbG hbT hbS
  have hzl : (((w.alloc (.cells #[.int .i64 (l : Int)] 3)).alloc (.cells #[.slice none 0 0] 22)).alloc (.cells #[.slice (some ⟨b, off, none⟩) (iL cs).length cap] 22)).heap.size = w.heap.size + 1 + 1 + 1 := by simp
  obtain ⟨Wl, hWl⟩ : ∃ Wl, (((w.alloc (.cells #[.int .i64 (l : Int)] 3)).alloc (.cells #[.slice none 0 0] 22)).alloc (.cells #[.slice (some ⟨b, off, none⟩) (iL cs).length cap] 22)) = Wl := ⟨_, rfl⟩
  rw [hWl] at W0 hbG hbT hbS hzl ⊢
  obtain ⟨N, hN⟩ : ∃ N, w.heap.size = N := ⟨_, rfl⟩
  rw [hN] at W0 hbG hbT hbS hzl hbl ⊢
  have hcs : ∀ j, j < (iL cs).length → Wl.cell? ⟨b, off + j, none⟩ = some (.int .i64 ((iL cs).getD j 0)) := fun j hj => (W0.cell (p := ⟨b, off + j, none⟩) hbl).trans (HCL.out j hj)
  clear hWl x1
  refine wpIn_rangeFunc_ownG hro h1 (gf := 85) (lb := #[.pointer (some ⟨N + 1 + 1, 0, none⟩)]) rfl (hF _) (enters_of Try.func85 (by kernel_rfl) rfl)
    (back_stops F (n - 1) (hF _) hro (by omega) (N + 1 + 1) N b off cap (some ⟨b, off, none⟩) (iL cs) (fun _ => rfl) (by omega) Wl (fun _ => hbl) (by omega) (by omega) hbS.cell hcs) KpB.trans (kpB_b (by omega) (by omega)) (Below.refl _ _) (fun _ => rfl)
    (GsJ w N l b off cap cs)
    (fun c pre W => c = .ret ∧ GsX w N l cs pre W)
    (gsJ_own _ (by omega) (by omega))
    (fun c => gsX_own c _ (by omega) (by omega))
    ⟨hbG, hbT, hbS, W0, fun x hx => by cases hx⟩
    (fun x => { tmps := #[.int .i64 (l : Int), .pointer (some ⟨C, 0, none⟩), .pointer (some ⟨N, 0, none⟩), .pointer (some ⟨N + 1, 0, none⟩), .int .i64 (bkF (iL cs) x.1).1, .int .i64 (bkF (iL cs) x.1).2, .slice (some ⟨b, off, none⟩) (iL cs).length cap, .func (.func 85) #[] #[.pointer (some ⟨N + 1 + 1, 0, none⟩)], .int .i64 (bkF (iL cs) x.1).1, .int .i64 (bkF (iL cs) x.1).2, undef, undef, undef, undef, undef, undef, undef, undef], defers := [] }) ?assign ?body ?done ?stop
  case assign =>
    intro l x W K hK
    gi_wp2
    exact hK
  case body =>
    rintro l' pre x W ⟨hG, hT, hS, hB, hlow⟩ hlt
    have hxl := x.2
    have hbk := bk_iL cs x.1 (by have := HLEN.out; omega)
    have hc1 := HP.out _ (at_mem (cs := cs) (j := cs.length - 1 - x.1) (by have := HLEN.out; omega))
    rw [hbk]
    have HX : ∀ k c, cs.length - 1 - x.1 = k → cs.getD k 0 = c → (l < c → LowT cs l (pre ++ [x])) := fun k c e1 e2 hlc y hy => by
      rcases List.mem_append.1 hy with hy | hy
      · exact hlow y hy
      · simp only [List.mem_cons, List.not_mem_nil, or_false] at hy
        rw [hy, e1, e2]; exact hlc
    obtain ⟨k, ek⟩ : ∃ k, cs.length - 1 - x.1 = k := ⟨_, rfl⟩
    rw [ek] at hc1 ⊢
    obtain ⟨c, ec⟩ : ∃ c, cs.getD k 0 = c := ⟨_, rfl⟩
    rw [ec] at hc1 ⊢
    have HX := Lib.hid (HX k c ek ec)
    have hgc := hG.cell
    have htc := hT.cell
    have htf := hT.frozen
    have hBz := hB.size
    rw [hN] at hBz
    have hTl := hT.lt
    have hSl := hS.lt
    have EK := Lib.hid ek
    have EC := Lib.hid ec
    have HLOW := Lib.hid hlow
    clear hbk ek ec hlow
    by_cases hcl : c ≤ l
    · have hle : (c : Int) ≤ (l : Int) := by omega
      have hq : (l : Int).tdiv (c : Int) = ((l / c : Nat) : Int) := by rw [Int.ofNat_tdiv]
      have hc0 : ¬ (c : Int) = 0 := by omega
      have hql : l / c ≤ 1048576 := Nat.le_trans (Nat.div_le_self l c) hl
      obtain ⟨q, eq⟩ : ∃ q, l / c = q := ⟨_, rfl⟩
      rw [eq] at hq hql
      have hqw : IntKind.i64.wrap (q : Int) = (q : Int) := IntWalk.i64_in _ (by omega)
      have hM := CallsIn.inRound l' (hW (n - 1 - 1 - 1) _ _ _ _ (coinsOfKind_any k q W hql))
      have EQ := Lib.hid eq
      clear eq
      gi_wp2_with (gi_at_call 59; refine hM.mono ?_; rintro e w2 ⟨rfl, ou, b2⟩; have hT2 := Boxed.below hT b2; have htc2 := hT2.cell; have htf2 := hT2.frozen)
      refine ⟨(kf_below b2).trans ((KeepsOthers.setCell _ _ _).from _), rfl, ⟨pre, x, _, rfl, HLOW.out, by rw [EK.out, EC.out]; exact hcl, by simpa using hT2.set _, ?_⟩, (hB.trans (b2.mono (by omega))).setCell (p := ⟨N + 1, 0, none⟩) (by show N ≤ N + 1; omega) _⟩
      rw [EK.out, EC.out, EQ.out]
      exact (ou.kept (row := some (N + 1)) (grown_set _ ⟨N + 1, 0, none⟩ _) (.inr (by simp only [Value.ownBlock]; intro h; simp only [Option.some.injEq] at h; omega))).mono (by omega)
    · have hle : ¬ (c : Int) ≤ (l : Int) := by omega
      gi_wp2
      exact ⟨KeepsFrom.refl _ _, KpB.refl _ _ _, hG, hT, hS, hB, HX.out (by omega)⟩
  case done =>
    rintro D ys W hD rfl ⟨hG, hT, hS, hB, hlow⟩ hK
    have hvc := hT.cell
    have hvf := hT.frozen
    have e2 : finTo (iL cs).length (iL cs).length = finTo (iL cs).length cs.length := by rw [← HLEN.out]
    rw [e2] at hlow
    have e1 := low_skip (cs := cs) (l := l) (k := cs.length) (Nat.le_refl _) hlow
    rw [Nat.sub_self] at e1
    have E1 := Lib.hid e1
    have hK2 : (W.setCell ⟨N + 1, 0, none⟩ (.slice none 0 0)).heap[D]? = some (.deferred (some [])) := (blk_other _ _ _ (by show D ≠ N + 1; omega)).trans hK
    clear e1 e2 hlow
    gi_wp2
    refine ⟨by simp, .inl ⟨_, _, rfl, run_takeDeferred hK2, ?_⟩⟩
    have hbe : Below N w ((W.setCell ⟨N + 1, 0, none⟩ (.slice none 0 0)).putObj D (.deferred none)) := (hB.setCell (p := ⟨N + 1, 0, none⟩) (by show N ≤ N + 1; omega) _).trans (belowK_b (w := Wl) (by omega) _ D _ _ hD hK2 rfl rfl)
    have hr : Boxed ((W.setCell ⟨N + 1, 0, none⟩ (.slice none 0 0)).putObj D (.deferred none)) (N + 1) 22 (.slice none 0 0) := (World.putObj_heap_other (by omega)).trans (hT.set _)
    have hrc := hr.cell
    refine ⟨_, (by simp [results, Try.results57, go_sem, hrc]), .slice none 0 0, rfl, ?_, by first | exact hbe | (rw [hN]; exact hbe)⟩
    rw [E1.out]
    exact ow_nil _ _
  case stop =>
    rintro D c pre W hD ⟨k, hk1, hk2⟩ ⟨rfl, ⟨pre', x, u, rfl, h2, h3, h4, h5⟩, h6⟩ hK
    obtain ⟨j, rfl, hpre, hxj⟩ := finTo_last (by omega) hk2
    have hlen := HLEN.out
    rw [hpre] at h2
    rw [hxj] at h3 h5
    have e1 := low_skip (cs := cs) (l := l) (k := j) (by omega) h2
    have e2 : cs.length - j = (cs.length - 1 - j) + 1 := by omega
    rw [e2, gsc, if_pos h3] at e1
    have E1 := Lib.hid e1
    have hbe : Below N w (W.putObj D (.deferred none)) := h6.trans (belowK_b (w := Wl) (by omega) W D _ _ hD hK rfl rfl)
    have hr : Boxed (W.putObj D (.deferred none)) (N + 1) 22 u := (World.putObj_heap_other (by omega)).trans h4
    have hrc := hr.cell
    have ho : Ow (W.putObj D (.deferred none)) N u (iL (List.replicate (l / cs.getD (cs.length - 1 - j) 0) (cs.length - 1 - j))) := ownsRow_putObj h5 (.deferred none) hK rfl
    clear e1 e2 hpre hk2
    gi_wp2
    refine ⟨by simp, .inl ⟨_, _, rfl, run_takeDeferred hK, ?_⟩⟩
    refine ⟨_, (by simp [results, Try.results57, go_sem, hrc]), u, rfl, ?_, by first | exact hbe | (rw [hN]; exact hbe)⟩
    rw [E1.out, hN]
    exact ho

theorem gnext_any (C l cap b off : Nat) (cs : List Nat) (w : World) (hC : Boxed w C 22 (.slice (some ⟨b, off, none⟩) (iL cs).length cap)) (hbl : b < w.heap.size)
    (hcl : ∀ j, j < (iL cs).length → w.cell? ⟨b, off + j, none⟩ = some (.int .i64 ((iL cs).getD j 0))) (hp : Pos cs) (hl8 : cs.length ≤ 8) (hl : l ≤ 1048576) :
    Calls Try.prog 57 #[.int .i64 (l : Int), .pointer (some ⟨C, 0, none⟩)] w fun e w' => ∃ u, e = .returned u ∧ Ow w' w.heap.size u (iL (gstep cs l)) ∧ Below w.heap.size w w' :=
  callsIn_wide.1 (gnext_in Fence.wide 8 (fun _ => trivial) rfl (by omega) (fun _ _ _ _ _ h => callsIn_wide.2 h) C l cap b off cs w hC hbl hcl hp hl8 hl)
end Go.Proofs.Ytdgadabfahmdmaa
