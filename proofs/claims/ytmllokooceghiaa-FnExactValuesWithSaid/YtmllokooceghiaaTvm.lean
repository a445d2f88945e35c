/-
  The program's values of so many stamps, by its contract. Condition: stamps that are at least 1.
-/
import Derived.Test.YtmllokooceghiaaTrc
namespace Go.Proofs.Ytmllokooceghiaa
open Go.RowKit Go.Shelf

attribute [local go_sem] Oper.semAt_some sv2

/-- The numbers below k at which P holds. -/
def vmK (P : Nat → Bool) (k : Nat) : List Int := ((List.range k).filter P).map fun (j : Nat) => (j : Int)
theorem vmK_yes {P : Nat → Bool} {k : Nat} (h : P k = true) : vmK P (k + 1) = vmK P k ++ [(k : Int)] := by
  unfold vmK; rw [List.range_succ, List.filter_append]; simp [h]
theorem vmK_no {P : Nat → Bool} {k : Nat} (h : P k = false) : vmK P (k + 1) = vmK P k := by
  unfold vmK; rw [List.range_succ, List.filter_append]; simp [h]
theorem vmK_len (P : Nat → Bool) (k : Nat) : (vmK P k).length ≤ k := by
  unfold vmK
  rw [List.length_map]
  exact Nat.le_trans (List.length_filter_le _ _) (by simp)
theorem kpT_grown {n₀ Bs : Nat} {W W' : World} {B : Nat} {v : Value} {ys : List Int} (h : Ow W B v ys) (hn : n₀ ≤ B) (hz : n₀ ≤ W.heap.size) (hg : W.grownBy W' v.ownBlock) {t : TypeId} {u : Value} (hs : Boxed W Bs t u) (ht : t ≠ 3) : KpT n₀ Bs W W' := by
  refine ⟨(Below.refl _ _).grown hg hz fun k hk => Nat.le_trans hn (World.ownsRow.lt h k hk).1, ?_, fun k c hk => ?_⟩
  · exact hg.block Bs hs.lt (hs.not_row ht h)
  · refine (hg.block k (Array.getElem?_eq_some_iff.1 hk).1 fun e => ?_).trans hk
    rcases h.2 with ⟨rfl, _⟩ | ⟨g, cap, cur, rfl, _, hh, _⟩
    · simp [Value.ownBlock] at e
    · have e2 : k = g := by simpa [Value.ownBlock] using e
      subst e2
      rw [hk] at hh
      simp only [Option.some.injEq, Obj.cells.injEq] at hh
      exact absurd hh.2.1 (by decide)
theorem ko_grown {W W' : World} {B : Nat} {v : Value} {ys : List Int} (h : Ow W B v ys) (hg : W.grownBy W' v.ownBlock) : KeepsOthers W W' := by
  refine KeepsOthers.of_grownBy hg fun j o hj ho => ?_
  rcases h.2 with ⟨rfl, _⟩ | ⟨g, cap, cur, rfl, _, hh, _⟩
  · simp [Value.ownBlock] at hj
  · have e2 : g = j := by simpa [Value.ownBlock] using hj
    subst e2
    rw [ho] at hh
    cases hh
    rfl

theorem vm_kept {W w3 : World} {g B : Nat} {v : Value} {ys : List Int} {o : Obj} (hv : Boxed W g 22 v) (ho : Ow W B v ys) (hg : (W.alloc o).grownBy w3 v.ownBlock) : Boxed w3 g 22 v :=
  (hv.alloc o).kept hg (Boxed.not_row (hv.alloc o) (by decide) (ho.alloc o))

theorem vm_keep {W w3 : World} {g B : Nat} {v u : Value} {ys : List Int} {o : Obj} {t : TypeId} (hv : Boxed W g t u) (ht : t ≠ 3) (ho : Ow W B v ys) (hg : (W.alloc o).grownBy w3 v.ownBlock) : Boxed w3 g t u :=
  (hv.alloc o).kept hg (Boxed.not_row (hv.alloc o) ht (ho.alloc o))

set_option maxRecDepth 100000 in
set_option maxHeartbeats 8000000 in
theorem vals_in (F : Fence) (hFw : F = Fence.wide) (n : Nat) (hF : ∀ k, F.fn k) (hro : F.round = none) (hn : 5 ≤ n) (hW : ∀ (k f : Nat) (args : Array Value) (w : World) (R : Ending → World → Prop), Calls Try.prog f args w R → CallsIn F k Try.prog f args w R)
    (b off cap : Nat) (ti : TypeId) (tv : Value) (P : Nat → Bool) (st : List Int) (w : World) (h1 : ∀ x ∈ st, 1 ≤ x) (hl : st.length ≤ 1048576) (hb : b < w.heap.size) (hc : ∀ j, j < st.length → w.cell? ⟨b, off + j, none⟩ = some (.int .i64 (st.getD j 0)))
    (hP : ∀ (v : Nat) (W : World), Calls Try.prog 56 #[sv2 (pf st v) (pc st v), .iface ti tv] W fun e w' => e = .returned (.bool (P v)) ∧ Below W.heap.size W w') :
    CallsIn F n Try.prog 61 #[.slice (some ⟨b, off, none⟩) st.length cap, .iface ti tv] w fun e w' => ∃ u, e = .returned u ∧ Ow w' w.heap.size u (vmK P 4001) ∧ Below w.heap.size w w' := by
  have h1n : 1 ≤ n := by omega
  have h1m : 1 ≤ n - 1 - 1 := by omega
  obtain ⟨i0, hi, hz0, hz1, hz2⟩ := info_parts Try.infoI
  have HFw := Lib.hid hFw
  have HC := Lib.hid hc
  have H1 := Lib.hid h1
  have HP := Lib.hid hP
  clear hFw hc h1 hP
  refine callsIn_of_wp_marks Try.func61 rfl (hF _) ?_ hro
  simp only [Try.ntmps61, List.size_toArray, List.length_cons, List.length_nil, Nat.reduceAdd, Nat.reduceSub, Array.replicate_succ, Array.replicate_zero, List.push_toArray, List.append_toArray, List.nil_append, List.cons_append]
  gi_wp2_with (gi_at_call 71; refine (eachFn_in F (n - 1) (hF _) hro _ _ _ _).mono ?_; rintro e w' ⟨rfl, rfl⟩)
  have hx0 : Boxed ((((w.alloc (.cells #[.iface ti tv] 20)).alloc (.cells #[] 3)).alloc (.cells #[.slice (some ⟨w.heap.size + 1, 0, none⟩) 0 0] 22)).alloc (.cells #[.slice (some ⟨b, off, none⟩) st.length cap] 22)) w.heap.size 20 (.iface ti tv) := (((Boxed.new w _ _).alloc _).alloc _).alloc _
  have hr0 : Boxed ((((w.alloc (.cells #[.iface ti tv] 20)).alloc (.cells #[] 3)).alloc (.cells #[.slice (some ⟨w.heap.size + 1, 0, none⟩) 0 0] 22)).alloc (.cells #[.slice (some ⟨b, off, none⟩) st.length cap] 22)) (w.heap.size + 1 + 1) 22 (.slice (some ⟨w.heap.size + 1, 0, none⟩) 0 0) := by
    have := (Boxed.new ((w.alloc (.cells #[.iface ti tv] 20)).alloc (.cells #[] 3)) 22 (.slice (some ⟨w.heap.size + 1, 0, none⟩) 0 0)).alloc (.cells #[.slice (some ⟨b, off, none⟩) st.length cap] 22)
    simpa using this
  have hs0 : Boxed ((((w.alloc (.cells #[.iface ti tv] 20)).alloc (.cells #[] 3)).alloc (.cells #[.slice (some ⟨w.heap.size + 1, 0, none⟩) 0 0] 22)).alloc (.cells #[.slice (some ⟨b, off, none⟩) st.length cap] 22)) (w.heap.size + 1 + 1 + 1) 22 (.slice (some ⟨b, off, none⟩) st.length cap) := by
    have := Boxed.new (((w.alloc (.cells #[.iface ti tv] 20)).alloc (.cells #[] 3)).alloc (.cells #[.slice (some ⟨w.heap.size + 1, 0, none⟩) 0 0] 22)) 22 (.slice (some ⟨b, off, none⟩) st.length cap)
    simpa using this
  have ho0 : Ow ((((w.alloc (.cells #[.iface ti tv] 20)).alloc (.cells #[] 3)).alloc (.cells #[.slice (some ⟨w.heap.size + 1, 0, none⟩) 0 0] 22)).alloc (.cells #[.slice (some ⟨b, off, none⟩) st.length cap] 22)) w.heap.size (.slice (some ⟨w.heap.size + 1, 0, none⟩) 0 0) (vmK P 0) := by
    have := ow_empty (w.alloc (.cells #[.iface ti tv] 20))
    simp only [World.size_alloc] at this
    exact ((this.alloc _).alloc _).mono (Nat.le_succ _)
  have hB0 : Below w.heap.size w ((((w.alloc (.cells #[.iface ti tv] 20)).alloc (.cells #[] 3)).alloc (.cells #[.slice (some ⟨w.heap.size + 1, 0, none⟩) 0 0] 22)).alloc (.cells #[.slice (some ⟨b, off, none⟩) st.length cap] 22)) := ((((Below.refl _ _).alloc (Nat.le_refl _) _).alloc (by simp) _).alloc (by simp; omega) _).alloc (by simp; omega) _
  have hz0' : ((((w.alloc (.cells #[.iface ti tv] 20)).alloc (.cells #[] 3)).alloc (.cells #[.slice (some ⟨w.heap.size + 1, 0, none⟩) 0 0] 22)).alloc (.cells #[.slice (some ⟨b, off, none⟩) st.length cap] 22)).heap.size = w.heap.size + 1 + 1 + 1 + 1 := by simp
  obtain ⟨V, hV⟩ : ∃ V, ((((w.alloc (.cells #[.iface ti tv] 20)).alloc (.cells #[] 3)).alloc (.cells #[.slice (some ⟨w.heap.size + 1, 0, none⟩) 0 0] 22)).alloc (.cells #[.slice (some ⟨b, off, none⟩) st.length cap] 22)) = V := ⟨_, rfl⟩
  rw [hV] at hx0 hr0 hs0 ho0 hB0 hz0' ⊢
  clear hV
  refine wpIn_each F HFw.out hF hro (by omega) hW (w.heap.size + 1 + 1 + 1) w.heap.size b off cap st rfl rfl H1.out hl hb (by omega) (by omega) hs0.cell (fun j hj => (hB0.cell (p := ⟨b, off + j, none⟩) hb).trans (HC.out j hj))
    (fun k W => Boxed W w.heap.size 20 (.iface ti tv) ∧ (∃ v, Boxed W (w.heap.size + 1 + 1) 22 v ∧ Ow W w.heap.size v (vmK P k)) ∧ Boxed W (w.heap.size + 1 + 1 + 1) 22 (.slice (some ⟨b, off, none⟩) st.length cap) ∧ Below w.heap.size w W)
    (fun k p W => (Boxed W w.heap.size 20 (.iface ti tv) ∧ (∃ v, Boxed W (w.heap.size + 1 + 1) 22 v ∧ Ow W w.heap.size v (vmK P k)) ∧ Boxed W (w.heap.size + 1 + 1 + 1) 22 (.slice (some ⟨b, off, none⟩) st.length cap) ∧ Below w.heap.size w W) ∧ C2 W p (pf st k) (pc st k))
    (fun _ _ _ => False)
    (fun k X Y h hs => ⟨Stq.boxed h.1 (by decide) hs, (let ⟨v, hv, ho⟩ := h.2.1; ⟨v, Stq.boxed hv (by decide) hs, Stq.ow ho hs⟩), Stq.boxed h.2.2.1 (by decide) hs, Stq.below h.2.2.2 (Nat.le_refl _) (by omega) hs⟩)
    (fun k p X Y h hs => ⟨(let h := h.1; ⟨Stq.boxed h.1 (by decide) hs, (let ⟨v, hv, ho⟩ := h.2.1; ⟨v, Stq.boxed hv (by decide) hs, Stq.ow ho hs⟩), Stq.boxed h.2.2.1 (by decide) hs, Stq.below h.2.2.2 (Nat.le_refl _) (by omega) hs⟩), h.2.stq hs⟩)
    (fun c k X Y h hs => h)
    ⟨hx0, ⟨_, hr0, ho0⟩, hs0, hB0⟩
    (fun k p => { tmps := #[.slice (some ⟨b, off, none⟩) st.length cap, .iface ti tv, undef, .pointer (some ⟨w.heap.size, 0, none⟩), .slice none 0 0, .pointer (some ⟨w.heap.size + 1 + 1, 0, none⟩), .int .i64 (k : Int), .pointer (some ⟨p, 0, none⟩), .slice (some ⟨w.heap.size + 1, 0, none⟩) 0 0, .slice (some ⟨b, off, none⟩) st.length cap, .func (.func 74) #[] #[.pointer (some ⟨w.heap.size + 1 + 1 + 1, 0, none⟩)], .int .i64 (k : Int), sv2 (pf st k) (pc st k), undef, undef, undef, undef, undef, undef, undef, undef], defers := [] }) ?assign ?body ?done ?stop
  case assign =>
    intro l k W K hi hk hz hK
    gi_wp2
    refine hK W.heap.size _ ((KeepsOthers.alloc _ _).from _) (KpT.alloc (by omega) (by omega) _) ⟨⟨hi.1.alloc _, (let ⟨v, hv, ho⟩ := hi.2.1; ⟨v, hv.alloc _, ho.alloc _⟩), hi.2.2.1.alloc _, hi.2.2.2.alloc (by omega) _⟩, C2.new _ _ _ rfl⟩
  case body =>
    rintro l k p W ⟨⟨hx, ⟨v, hv, ho⟩, hs, hB⟩, hp⟩ hlt hsz
    have hxc := hx.cell
    have hln := vmK_len P k
    obtain ⟨p1, p2, p3, p4⟩ := hp.cells
    have hM := CallsIn.inRound l (hW (n - 1 - 1 - 1) _ _ _ _ (HP.out k W))
    simp only [sv2] at hM
    by_cases e : P k = true
    · rw [e] at hM
      have EV := Lib.hid (vmK_yes e)
      clear e
      gi_wp2_with (first
        | (gi_at_call 56; refine hM.mono ?_; rintro e w2 ⟨rfl, b2⟩; have hv2 := Boxed.below hv b2; have hvc2 := hv2.cell; have ho2 := ho.below b2 (Nat.le_refl _); have z2 := b2.size)
        | (gi_at_builtin; refine wpListIn_append_own _ rfl _ _ 22 rfl w.heap.size 3 i0 (.int .i64 0) 1 8 Try.underlying22 hi hz0 hz1 hz2 rfl (by decide) _ _ _ rfl (ho2.alloc _) ⟨w2.heap.size, 0, none⟩ 1 1 [_] rfl rfl (cell_one_new _ _ _) (by simp [Value.oneCell']) (by unfold maxLen; omega) (by omega) (by simp; omega) ?_; intro v' w3 hown' hgrow _; obtain ⟨g', cap', rfl⟩ := ownsRow_succ hown'; have hv3 := vm_kept hv2 ho2 hgrow; have hvc3 := hv3.cell; have hvf3 := hv3.frozen))
      have hs2 := Boxed.below hs b2
      have hA := ho2.alloc (.cells #[.int .i64 (k : Int)] 3)
      have KT : KpT w.heap.size (w.heap.size + 1 + 1 + 1) W (w3.setCell ⟨w.heap.size + 1 + 1, 0, none⟩ (.slice (some ⟨g', 0, none⟩) ((vmK P k).length + 1) cap')) :=
        (KpT.of_below b2 (by omega) (by omega)).trans ((KpT.alloc (by omega) (by omega) _).trans ((kpT_grown hA (Nat.le_refl _) (by simp; omega) hgrow (hs2.alloc _) (by decide)).trans (KpT.setCell hv3 (by decide) (by omega) (by omega) _)))
      refine ⟨(kf_below b2).trans (((KeepsOthers.alloc _ _).trans ((ko_grown hA hgrow).trans (KeepsOthers.setCell _ _ _))).from _), KT, (vm_keep (Boxed.below hx b2) (by decide) ho2 hgrow).other (by omega) _, ⟨_, hv3.set _, ?_⟩, (vm_keep hs2 (by decide) ho2 hgrow).other (by omega) _, hB.trans KT.1⟩
      rw [EV.out]
      exact Ow.kept (ow_app (xs := [(k : Int)]) hown') (grownBy_setCell' _ _ _) (.inr fun e => Boxed.not_row hv3 (by decide) hown' e.symm)
    · have e : P k = false := by simpa using e
      rw [e] at hM
      have EV := Lib.hid (vmK_no e)
      gi_wp2_with (gi_at_call 56; refine hM.mono ?_; rintro e w2 ⟨rfl, b2⟩)
      refine ⟨kf_below b2, KpT.of_below b2 (by omega) (by omega), Boxed.below hx b2, ⟨v, Boxed.below hv b2, by rw [EV.out]; exact ho.below b2 (Nat.le_refl _)⟩, Boxed.below hs b2, hB.trans (b2.mono (by omega))⟩
  case done =>
    rintro D W hD ⟨_, ⟨v, hv, ho⟩, _, hB⟩ hK
    have qs : Stq V.heap.size W (W.putObj D (.deferred none)) := Stq.put _ hD hK rfl
    have hrc := hv.cell
    gi_wp2
    refine ⟨by simp, .inl ⟨_, _, rfl, run_takeDeferred hK, ?_⟩⟩
    exact ⟨_, (by simp [results, Try.results61, go_sem]), v, rfl, Stq.ow ho qs, Stq.below hB (Nat.le_refl _) (by omega) qs⟩
  case stop =>
    rintro D c k W hD hk h hK
    exact h.elim

theorem valuesMadeOf_any (b off cap : Nat) (ti : TypeId) (tv : Value) (P : Nat → Bool) (st : List Int) (w : World) (h1 : ∀ x ∈ st, 1 ≤ x) (hl : st.length ≤ 1048576) (hb : b < w.heap.size) (hc : ∀ j, j < st.length → w.cell? ⟨b, off + j, none⟩ = some (.int .i64 (st.getD j 0)))
    (hP : ∀ (v : Nat) (W : World), Calls Try.prog 56 #[sv2 (pf st v) (pc st v), .iface ti tv] W fun e w' => e = .returned (.bool (P v)) ∧ Below W.heap.size W w') :
    Calls Try.prog 61 #[.slice (some ⟨b, off, none⟩) st.length cap, .iface ti tv] w fun e w' => ∃ u, e = .returned u ∧ Ow w' w.heap.size u (vmK P 4001) ∧ Below w.heap.size w w' :=
  callsIn_wide.1 (vals_in Fence.wide rfl 8 (fun _ => trivial) rfl (by omega) (fun _ _ _ _ _ h => callsIn_wide.2 h) b off cap ti tv P st w h1 hl hb hc hP)
end Go.Proofs.Ytmllokooceghiaa
