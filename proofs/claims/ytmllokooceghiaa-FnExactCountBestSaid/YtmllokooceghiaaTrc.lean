/-
  The program's reach, by its contract. Condition: stamps that are at least 1, a room of at most 8, a reach of at most 4000.
-/
import Derived.Test.YtmllokooceghiaaTsv
import Derived.Test.YtmllokooceghiaaTwp
namespace Go.Proofs.Ytmllokooceghiaa
open Go.RowKit Go.Shelf

attribute [local go_sem] Oper.semAt_some sv2

theorem made_most {st : List Int} (h1 : ∀ x ∈ st, 1 ≤ x) (v r : Nat) (hr : r ≤ 8) (w : World) :
    Calls Try.prog 56 #[sv2 (pf st v) (pc st v), atM r] w fun e w' => e = .returned (.bool (decide (fw st v ≤ (r : Int)))) ∧ Below w.heap.size w w' := by
  have e0 : stNone = 1000000 := rfl
  by_cases hv : fw st v < stNone
  · have p := pf_some h1 hv
    rw [← p.1]
    exact made_some _ _ p.2 _ _
  · have p := pf_none h1 hv
    have d : decide (fw st v ≤ (r : Int)) = false := by simp; omega
    rw [p.1, p.2, d]
    exact made_none _ _
theorem made_with {st : List Int} (v k : Nat) (hk : k ≤ 8) (w : World) :
    Calls Try.prog 56 #[sv2 (pf st v) (pc st v), jst k] w fun e w' => e = .returned (.bool (mkB st k (v : Int))) ∧ Below w.heap.size w w' := by
  have e : (pc st v).testBit k = mkB st k (v : Int) := by
    unfold pc mkB
    rw [bitN_test]
    have : decide (k < 9) = true := by simp; omega
    rw [this, Bool.true_and]
  rw [← e]
  exact made_just _ _ (pc_lt st v) k hk w
theorem kf_below {B : Nat} {W W' : World} (h : Below W.heap.size W W') : KeepsFrom B W W' := ⟨h.size, fun k _ _ hk _ => (h.block k (Array.getElem?_eq_some_iff.1 hk).1).trans hk⟩
theorem KpT.of_below {n₀ Bs : Nat} {W W' : World} (h : Below W.heap.size W W') (hn : n₀ ≤ W.heap.size) (hB : Bs < W.heap.size) : KpT n₀ Bs W W' :=
  ⟨h.mono hn, h.block Bs hB, fun k _ hk => (h.block k (Array.getElem?_eq_some_iff.1 hk).1).trans hk⟩
theorem KpT.setCell {n₀ Bs g : Nat} {W : World} {t : TypeId} {v : Value} (h : Boxed W g t v) (ht : t ≠ 70) (hn : n₀ ≤ g) (hg : g ≠ Bs) (u : Value) : KpT n₀ Bs W (W.setCell ⟨g, 0, none⟩ u) := by
  refine ⟨(Below.refl _ _).setCell hn u, ?_, fun k c hk => ?_⟩
  · simp [World.setCell, Array.getElem?_modify, hg]
  · have hne : g ≠ k := by
      rintro rfl
      have h : W.heap[g]? = _ := h
      rw [hk] at h
      cases h
      exact ht rfl
    simpa [World.setCell, Array.getElem?_modify, hne] using hk
theorem C2.below {W W' : World} {g : Nat} {f : Int} {c : Nat} (h : C2 W g f c) (k : Below W.heap.size W W') : C2 W' g f c := (k.block g h.lt).trans h
theorem Boxed.below {W W' : World} {g : Nat} {t : TypeId} {v : Value} (h : Boxed W g t v) (k : Below W.heap.size W W') : Boxed W' g t v := (k.block g h.lt).trans h

set_option maxRecDepth 100000 in
set_option maxHeartbeats 8000000 in
theorem reach_in (F : Fence) (hFw : F = Fence.wide) (n : Nat) (hF : ∀ k, F.fn k) (hro : F.round = none) (hn : 5 ≤ n) (hW : ∀ (k f : Nat) (args : Array Value) (w : World) (R : Ending → World → Prop), Calls Try.prog f args w R → CallsIn F k Try.prog f args w R)
    (b off cap r R : Nat) (st : List Int) (w : World) (h1 : ∀ x ∈ st, 1 ≤ x) (hl : st.length ≤ 1048576) (hb : b < w.heap.size) (hc : ∀ j, j < st.length → w.cell? ⟨b, off + j, none⟩ = some (.int .i64 (st.getD j 0))) (hr : r ≤ 8) (hR : R ≤ 4000)
    (hs1 : ∀ j, j ≤ R → fw st j ≤ (r : Int)) (hs2 : ¬ fw st (R + 1) ≤ (r : Int)) :
    CallsIn F n Try.prog 58 #[.slice (some ⟨b, off, none⟩) st.length cap, .int .i64 (r : Int)] w fun e w' => e = .returned (.int .i64 (R : Int)) ∧ Below w.heap.size w w' := by
  have h1n : 1 ≤ n := by omega
  have h1m : 1 ≤ n - 1 - 1 := by omega
  have HFw := Lib.hid hFw
  have HC := Lib.hid hc
  have H1 := Lib.hid h1
  have HS1 := Lib.hid hs1
  have HS2 := Lib.hid hs2
  have HRO := Lib.hid hro
  clear hFw hc h1 hs1 hs2
  refine callsIn_of_wp_marks Try.func58 rfl (hF _) ?_ hro
  simp only [Try.ntmps58, List.size_toArray, List.length_cons, List.length_nil, Nat.reduceAdd, Nat.reduceSub, Array.replicate_succ, Array.replicate_zero, List.push_toArray, List.append_toArray, List.nil_append, List.cons_append]
  gi_wp2_with (gi_at_call 71; refine (eachFn_in F (n - 1) (hF _) hro _ _ _ _).mono ?_; rintro e w' ⟨rfl, rfl⟩)
  have hx0 : Boxed (((w.alloc (.cells #[.int .i64 (r : Int)] 3)).alloc (.cells #[.int .i64 0] 3)).alloc (.cells #[.slice (some ⟨b, off, none⟩) st.length cap] 22)) w.heap.size 3 (.int .i64 (r : Int)) := ((Boxed.new w 3 _).alloc _).alloc _
  have hr0 : Boxed (((w.alloc (.cells #[.int .i64 (r : Int)] 3)).alloc (.cells #[.int .i64 0] 3)).alloc (.cells #[.slice (some ⟨b, off, none⟩) st.length cap] 22)) (w.heap.size + 1) 3 (.int .i64 0) := by
    have := (Boxed.new (w.alloc (.cells #[.int .i64 (r : Int)] 3)) 3 (.int .i64 0)).alloc (.cells #[.slice (some ⟨b, off, none⟩) st.length cap] 22)
    simpa using this
  have hs0 : (((w.alloc (.cells #[.int .i64 (r : Int)] 3)).alloc (.cells #[.int .i64 0] 3)).alloc (.cells #[.slice (some ⟨b, off, none⟩) st.length cap] 22)).cell? ⟨w.heap.size + 1 + 1, 0, none⟩ = some (.slice (some ⟨b, off, none⟩) st.length cap) := by
    have := (Boxed.new ((w.alloc (.cells #[.int .i64 (r : Int)] 3)).alloc (.cells #[.int .i64 0] 3)) 22 (.slice (some ⟨b, off, none⟩) st.length cap)).cell
    simpa using this
  have hB0 : Below w.heap.size w (((w.alloc (.cells #[.int .i64 (r : Int)] 3)).alloc (.cells #[.int .i64 0] 3)).alloc (.cells #[.slice (some ⟨b, off, none⟩) st.length cap] 22)) := (((Below.refl _ _).alloc (Nat.le_refl _) _).alloc (by simp) _).alloc (by simp; omega) _
  have hz0 : (((w.alloc (.cells #[.int .i64 (r : Int)] 3)).alloc (.cells #[.int .i64 0] 3)).alloc (.cells #[.slice (some ⟨b, off, none⟩) st.length cap] 22)).heap.size = w.heap.size + 1 + 1 + 1 := by simp
  obtain ⟨V, hV⟩ : ∃ V, (((w.alloc (.cells #[.int .i64 (r : Int)] 3)).alloc (.cells #[.int .i64 0] 3)).alloc (.cells #[.slice (some ⟨b, off, none⟩) st.length cap] 22)) = V := ⟨_, rfl⟩
  rw [hV] at hx0 hr0 hs0 hB0 hz0 ⊢
  clear hV
  refine wpIn_each F HFw.out hF hro (by omega) hW (w.heap.size + 1 + 1) w.heap.size b off cap st rfl rfl H1.out hl hb (by omega) (by omega) hs0 (fun j hj => (hB0.cell (p := ⟨b, off + j, none⟩) hb).trans (HC.out j hj))
    (fun k W => k ≤ R + 1 ∧ Boxed W w.heap.size 3 (.int .i64 (r : Int)) ∧ Boxed W (w.heap.size + 1) 3 (.int .i64 ((k - 1 : Nat) : Int)) ∧ Below w.heap.size w W)
    (fun k p W => (k ≤ R + 1 ∧ Boxed W w.heap.size 3 (.int .i64 (r : Int)) ∧ Boxed W (w.heap.size + 1) 3 (.int .i64 ((k - 1 : Nat) : Int)) ∧ Below w.heap.size w W) ∧ C2 W p (pf st k) (pc st k))
    (fun c _ W => c = .exit 0 ∧ Boxed W (w.heap.size + 1) 3 (.int .i64 (R : Int)) ∧ Below w.heap.size w W)
    (fun k X Y h hs => ⟨h.1, Stq.boxed h.2.1 (by decide) hs, Stq.boxed h.2.2.1 (by decide) hs, Stq.below h.2.2.2 (Nat.le_refl _) (by omega) hs⟩)
    (fun k p X Y h hs => ⟨⟨h.1.1, Stq.boxed h.1.2.1 (by decide) hs, Stq.boxed h.1.2.2.1 (by decide) hs, Stq.below h.1.2.2.2 (Nat.le_refl _) (by omega) hs⟩, h.2.stq hs⟩)
    (fun c k X Y h hs => ⟨h.1, Stq.boxed h.2.1 (by decide) hs, Stq.below h.2.2 (Nat.le_refl _) (by omega) hs⟩)
    ⟨Nat.zero_le _, hx0, hr0, hB0⟩
    (fun k p => { tmps := #[.slice (some ⟨b, off, none⟩) st.length cap, .int .i64 (r : Int), undef, .pointer (some ⟨w.heap.size, 0, none⟩), .int .i64 0, .pointer (some ⟨w.heap.size + 1, 0, none⟩), .int .i64 (k : Int), .pointer (some ⟨p, 0, none⟩), .slice (some ⟨b, off, none⟩) st.length cap, .func (.func 74) #[] #[.pointer (some ⟨w.heap.size + 1 + 1, 0, none⟩)], .int .i64 (k : Int), sv2 (pf st k) (pc st k), undef, undef, undef, undef, undef, undef, undef, undef], defers := [] }) ?assign ?body ?done ?stop
  case assign =>
    intro l k W K hi hk hz hK
    gi_wp2
    refine hK W.heap.size _ ((KeepsOthers.alloc _ _).from _) (KpT.alloc (by omega) (by omega) _) ⟨⟨hi.1, hi.2.1.alloc _, hi.2.2.1.alloc _, hi.2.2.2.alloc (by omega) _⟩, C2.new _ _ _ rfl⟩
  case body =>
    rintro l k p W ⟨⟨hka, hx, hr, hB⟩, hp⟩ hlt hsz
    have hxc := hx.cell
    obtain ⟨p1, p2, p3, p4⟩ := hp.cells
    have hM := CallsIn.inRound l (hW (n - 1 - 1 - 1) _ _ _ _ (made_most H1.out k r (by assumption) W))
    unfold atM at hM
    simp only [sv2] at hM
    by_cases e : k ≤ R
    · have d : decide (fw st k ≤ (r : Int)) = true := by simpa using HS1.out k e
      rw [d] at hM
      have hrc := hr.cell
      have hrf := hr.frozen
      gi_wp2_with (gi_at_call 56; refine hM.mono ?_; rintro e w2 ⟨rfl, b2⟩; have hr2 := Boxed.below hr b2; have hrc2 := hr2.cell; have hrf2 := hr2.frozen)
      have z2 := b2.size
      refine ⟨(kf_below b2).trans ((KeepsOthers.setCell _ _ _).from _), (KpT.of_below b2 (by omega) (by omega)).trans (KpT.setCell hr2 (by decide) (Nat.le_succ _) (by omega) _), by omega, ?_, by simpa using hr2.set _, (hB.trans (b2.mono (by omega))).setCell (Nat.le_succ _) _⟩
      exact (Boxed.below hx b2).other (by omega) _
    · have d : decide (fw st k ≤ (r : Int)) = false := by
        obtain rfl : k = R + 1 := by omega
        simpa using HS2.out
      rw [d] at hM
      gi_wp2_with (gi_at_call 56; refine hM.mono ?_; rintro e w2 ⟨rfl, b2⟩)
      have hr2 := Boxed.below hr b2
      rw [show k - 1 = R by omega] at hr2
      exact ⟨kf_below b2, rfl, hr2, hB.trans (b2.mono (by omega))⟩
  case done =>
    rintro D W hD ⟨h4, _, hr, hB⟩ hK
    have qs : Stq V.heap.size W (W.putObj D (.deferred none)) := Stq.put _ hD hK rfl
    have hrc := hr.cell
    obtain rfl : R = 4000 := by omega
    gi_wp2
    refine ⟨by simp, .inl ⟨_, _, rfl, run_takeDeferred hK, ?_⟩⟩
    exact ⟨_, (by simp [results, Try.results58, go_sem]), rfl, Stq.below hB (Nat.le_refl _) (by omega) qs⟩
  case stop =>
    rintro D c k W hD hk ⟨rfl, hr, hB⟩ hK
    have qs : Stq V.heap.size W (W.putObj D (.deferred none)) := Stq.put _ hD hK rfl
    have hrc := hr.cell
    gi_wp2
    refine ⟨by simp, .inl ⟨_, _, rfl, run_takeDeferred hK, ?_⟩⟩
    exact ⟨_, (by simp [results, Try.results58, go_sem]), rfl, Stq.below hB (Nat.le_refl _) (by omega) qs⟩

theorem reachOf_raw (b off cap r R : Nat) (st : List Int) (w : World) (h1 : ∀ x ∈ st, 1 ≤ x) (hl : st.length ≤ 1048576) (hb : b < w.heap.size) (hc : ∀ j, j < st.length → w.cell? ⟨b, off + j, none⟩ = some (.int .i64 (st.getD j 0))) (hr : r ≤ 8) (hR : R ≤ 4000)
    (hs1 : ∀ j, j ≤ R → fw st j ≤ (r : Int)) (hs2 : ¬ fw st (R + 1) ≤ (r : Int)) :
    Calls Try.prog 58 #[.slice (some ⟨b, off, none⟩) st.length cap, .int .i64 (r : Int)] w fun e w' => e = .returned (.int .i64 (R : Int)) ∧ Below w.heap.size w w' :=
  callsIn_wide.1 (reach_in Fence.wide rfl 8 (fun _ => trivial) rfl (by omega) (fun _ _ _ _ _ h => callsIn_wide.2 h) b off cap r R st w h1 hl hb hc hr hR hs1 hs2)
/-- .. for stamps, or none at all. -/
theorem reachOf_any (b off cap r : Nat) (st : List Int) (w : World) (hS : st = [] ∨ Stm st) (hb : b < w.heap.size) (hc : ∀ j, j < st.length → w.cell? ⟨b, off + j, none⟩ = some (.int .i64 (st.getD j 0))) (hr : r ≤ 8) :
    Calls Try.prog 58 #[.slice (some ⟨b, off, none⟩) st.length cap, .int .i64 (r : Int)] w fun e w' => e = .returned (.int .i64 (rch st r : Nat)) ∧ Below w.heap.size w w' := by
  rcases hS with rfl | S
  · rw [rch_nil r hr]
    refine reachOf_raw b off cap r 0 [] w (by simp) (by simp) hb hc hr (by omega) (fun j hj => ?_) ?_
    · obtain rfl : j = 0 := by omega
      rw [fw_zero]; omega
    · rw [fw_nil 0]; unfold stNone; omega
  · have sp := rch_spec S hr
    have h6 := S.six
    have hb2 := S.last_bd
    have : (r : Int) * lastS st ≤ 8 * 500 := Int.mul_le_mul (by omega) hb2.2 (by omega) (by omega)
    exact reachOf_raw b off cap r (rch st r) st w (fun x hx => (S.mem x hx).1) (by omega) hb hc hr (by omega) sp.2.1 sp.2.2
end Go.Proofs.Ytmllokooceghiaa
