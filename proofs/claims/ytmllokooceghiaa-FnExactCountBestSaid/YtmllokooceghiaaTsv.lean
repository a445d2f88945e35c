/-
  What the program tells of one value: its function that runs through its iterator, by its contract. Condition: stamps that are at least 1, a value of 0..4000.
-/
import Derived.Test.YtmllokooceghiaaTrg
namespace Go.Proofs.Ytmllokooceghiaa
open Go.RowKit Go.Shelf

attribute [local go_sem] Oper.semAt_some sv2

set_option maxHeartbeats 1000000 in
theorem eachFn_in (F : Fence) (n : Nat) (h5 : F.fn 71) (hro : F.round = none) (a : Option Addr) (len cap : Nat) (w : World) :
    CallsIn F n Try.prog 71 #[.slice a len cap] w fun e w' => e = .returned (.func (.func 74) #[] #[.pointer (some ⟨w.heap.size, 0, none⟩)]) ∧ w' = w.alloc (.cells #[.slice a len cap] 22) := by
  refine callsIn_of_wp Try.func71 rfl h5 ?_ hro
  simp only [Try.ntmps71, List.size_toArray, List.length_cons, List.length_nil, Nat.reduceAdd, Nat.reduceSub, Array.replicate_succ, Array.replicate_zero, List.push_toArray, List.append_toArray, List.nil_append, List.cons_append]
  gi_wp2
  go_ret
  exact ⟨rfl, rfl⟩

/-- A block that holds what is told of a value. -/
def C2 (W : World) (g : Nat) (f : Int) (c : Nat) : Prop := W.heap[g]? = some (.cells #[.int .i64 f, .int .u64 (c : Int)] 44 (0, 0))
theorem C2.cells {W : World} {g : Nat} {f : Int} {c : Nat} (h : C2 W g f c) : W.cell? ⟨g, 0, none⟩ = some (.int .i64 f) ∧ W.cell? ⟨g, 1, none⟩ = some (.int .u64 (c : Int)) ∧ W.frozen? ⟨g, 0, none⟩ = false ∧ W.frozen? ⟨g, 1, none⟩ = false := by
  unfold C2 at h
  refine ⟨?_, ?_, ?_, ?_⟩ <;> simp [World.cell?, World.frozen?, h]
theorem C2.stq {W W' : World} {B g : Nat} {f : Int} {c : Nat} (h : C2 W g f c) (k : Stq B W W') : C2 W' g f c :=
  k.same g _ h (.inr ⟨rfl, fun c e => by cases e⟩)

theorem C2.new (W : World) {g : Nat} (f : Int) (c : Nat) (hg : W.heap.size = g) : C2 (W.alloc (.cells #[.int .i64 f, .int .u64 (c : Int)] 44)) g f c := by
  subst hg
  exact World.alloc_heap_new W _
theorem C2.alloc {W : World} {g : Nat} {f : Int} {c : Nat} (h : C2 W g f c) (o : Obj) : C2 (W.alloc o) g f c :=
  (Below.heap_alloc W o g (Array.getElem?_eq_some_iff.1 h).1).trans h
theorem C2.lt {W : World} {g : Nat} {f : Int} {c : Nat} (h : C2 W g f c) : g < W.heap.size := (Array.getElem?_eq_some_iff.1 h).1
theorem C2.set {W : World} {g : Nat} {f : Int} {c : Nat} (h : C2 W g f c) (f' : Int) (c' : Nat) : C2 ((W.setCell ⟨g, 0, none⟩ (.int .i64 f')).setCell ⟨g, 1, none⟩ (.int .u64 (c' : Int))) g f' c' := by
  unfold C2 at h ⊢
  simp [World.setCell, Array.getElem?_modify, h]

theorem KpT.alloc {n₀ Bs : Nat} {W : World} (h : n₀ ≤ W.heap.size) (hB : Bs < W.heap.size) (o : Obj) : KpT n₀ Bs W (W.alloc o) :=
  ⟨(Below.refl _ _).alloc h o, Below.heap_alloc W o Bs hB, fun k _ hk => (Below.heap_alloc W o k (Array.getElem?_eq_some_iff.1 hk).1).trans hk⟩

set_option maxRecDepth 100000 in
set_option maxHeartbeats 8000000 in
theorem sval_in (F : Fence) (hFw : F = Fence.wide) (n : Nat) (hF : ∀ k, F.fn k) (hro : F.round = none) (hn : 5 ≤ n) (hW : ∀ (k f : Nat) (args : Array Value) (w : World) (R : Ending → World → Prop), Calls Try.prog f args w R → CallsIn F k Try.prog f args w R)
    (b off cap asked : Nat) (st : List Int) (w : World) (h1 : ∀ x ∈ st, 1 ≤ x) (hl : st.length ≤ 1048576) (hb : b < w.heap.size) (hc : ∀ j, j < st.length → w.cell? ⟨b, off + j, none⟩ = some (.int .i64 (st.getD j 0))) (ha : asked ≤ 4000) :
    CallsIn F n Try.prog 55 #[.slice (some ⟨b, off, none⟩) st.length cap, .int .i64 (asked : Int)] w fun e w' => e = .returned (sv2 (pf st asked) (pc st asked)) ∧ Below w.heap.size w w' := by
  have h1n : 1 ≤ n := by omega
  have HFw := Lib.hid hFw
  have HC := Lib.hid hc
  have H1 := Lib.hid h1
  clear hFw hc h1
  refine callsIn_of_wp_marks Try.func55 rfl (hF _) ?_ hro
  simp only [Try.ntmps55, List.size_toArray, List.length_cons, List.length_nil, Nat.reduceAdd, Nat.reduceSub, Array.replicate_succ, Array.replicate_zero, List.push_toArray, List.append_toArray, List.nil_append, List.cons_append]
  gi_wp2_with (gi_at_call 71; refine (eachFn_in F (n - 1) (hF _) hro _ _ _ _).mono ?_; rintro e w' ⟨rfl, rfl⟩)
  have hx0 : Boxed (((w.alloc (.cells #[.int .i64 (asked : Int)] 3)).alloc (.cells #[.int .i64 0, .int .u64 0] 44)).alloc (.cells #[.slice (some ⟨b, off, none⟩) st.length cap] 22)) w.heap.size 3 (.int .i64 (asked : Int)) := ((Boxed.new w 3 _).alloc _).alloc _
  have hr0 : C2 (((w.alloc (.cells #[.int .i64 (asked : Int)] 3)).alloc (.cells #[.int .i64 0, .int .u64 0] 44)).alloc (.cells #[.slice (some ⟨b, off, none⟩) st.length cap] 22)) (w.heap.size + 1) 0 0 := C2.alloc (C2.new _ 0 0 (by simp)) _
  have hs0 : (((w.alloc (.cells #[.int .i64 (asked : Int)] 3)).alloc (.cells #[.int .i64 0, .int .u64 0] 44)).alloc (.cells #[.slice (some ⟨b, off, none⟩) st.length cap] 22)).cell? ⟨w.heap.size + 1 + 1, 0, none⟩ = some (.slice (some ⟨b, off, none⟩) st.length cap) := by
    have := (Boxed.new ((w.alloc (.cells #[.int .i64 (asked : Int)] 3)).alloc (.cells #[.int .i64 0, .int .u64 0] 44)) 22 (.slice (some ⟨b, off, none⟩) st.length cap)).cell
    simpa using this
  have hB0 : Below w.heap.size w (((w.alloc (.cells #[.int .i64 (asked : Int)] 3)).alloc (.cells #[.int .i64 0, .int .u64 0] 44)).alloc (.cells #[.slice (some ⟨b, off, none⟩) st.length cap] 22)) := (((Below.refl _ _).alloc (Nat.le_refl _) _).alloc (by simp) _).alloc (by simp; omega) _
  have hz0 : (((w.alloc (.cells #[.int .i64 (asked : Int)] 3)).alloc (.cells #[.int .i64 0, .int .u64 0] 44)).alloc (.cells #[.slice (some ⟨b, off, none⟩) st.length cap] 22)).heap.size = w.heap.size + 1 + 1 + 1 := by simp
  obtain ⟨V, hV⟩ : ∃ V, (((w.alloc (.cells #[.int .i64 (asked : Int)] 3)).alloc (.cells #[.int .i64 0, .int .u64 0] 44)).alloc (.cells #[.slice (some ⟨b, off, none⟩) st.length cap] 22)) = V := ⟨_, rfl⟩
  rw [hV] at hx0 hr0 hs0 hB0 hz0 ⊢
  clear hV
  refine wpIn_each F HFw.out hF hro (by omega) hW (w.heap.size + 1 + 1) w.heap.size b off cap st rfl rfl H1.out hl hb (by omega) (by omega) hs0 (fun j hj => (hB0.cell (p := ⟨b, off + j, none⟩) hb).trans (HC.out j hj))
    (fun k W => k ≤ asked ∧ Boxed W w.heap.size 3 (.int .i64 (asked : Int)) ∧ C2 W (w.heap.size + 1) 0 0 ∧ Below w.heap.size w W)
    (fun k p W => (k ≤ asked ∧ Boxed W w.heap.size 3 (.int .i64 (asked : Int)) ∧ C2 W (w.heap.size + 1) 0 0 ∧ Below w.heap.size w W) ∧ C2 W p (pf st k) (pc st k))
    (fun c _ W => c = .ret ∧ C2 W (w.heap.size + 1) (pf st asked) (pc st asked) ∧ Below w.heap.size w W)
    (fun k X Y h hs => ⟨h.1, Stq.boxed h.2.1 (by decide) hs, h.2.2.1.stq hs, Stq.below h.2.2.2 (Nat.le_refl _) (by omega) hs⟩)
    (fun k p X Y h hs => ⟨⟨h.1.1, Stq.boxed h.1.2.1 (by decide) hs, h.1.2.2.1.stq hs, Stq.below h.1.2.2.2 (Nat.le_refl _) (by omega) hs⟩, h.2.stq hs⟩)
    (fun c k X Y h hs => ⟨h.1, h.2.1.stq hs, Stq.below h.2.2 (Nat.le_refl _) (by omega) hs⟩)
    ⟨Nat.zero_le _, hx0, hr0, hB0⟩
    (fun k p => { tmps := #[.slice (some ⟨b, off, none⟩) st.length cap, .int .i64 (asked : Int), undef, .pointer (some ⟨w.heap.size, 0, none⟩), .pointer (some ⟨w.heap.size + 1, 0, none⟩), .int .i64 (k : Int), .pointer (some ⟨p, 0, none⟩), .slice (some ⟨b, off, none⟩) st.length cap, .func (.func 74) #[] #[.pointer (some ⟨w.heap.size + 1 + 1, 0, none⟩)], .int .i64 (k : Int), sv2 (pf st k) (pc st k), undef, undef, undef, undef, undef], defers := [] }) ?assign ?body ?done ?stop
  case assign =>
    intro l k W K hi hk hz hK
    gi_wp2
    refine hK W.heap.size _ ((KeepsOthers.alloc _ _).from _) (KpT.alloc (by omega) (by omega) _) ⟨⟨hi.1, hi.2.1.alloc _, hi.2.2.1.alloc _, hi.2.2.2.alloc (by omega) _⟩, C2.new _ _ _ rfl⟩
  case body =>
    rintro l k p W ⟨⟨hka, hx, hr, hB⟩, hp⟩ hlt hsz
    have hxc := hx.cell
    obtain ⟨p1, p2, p3, p4⟩ := hp.cells
    obtain ⟨r1, r2, r3, r4⟩ := hr.cells
    by_cases e : k = asked
    · subst e
      gi_wp2
      exact ⟨((KeepsOthers.setCell _ _ _).trans (KeepsOthers.setCell _ _ _)).from _, rfl, hr.set _ _, (hB.setCell (Nat.le_succ _) _).setCell (Nat.le_succ _) _⟩
    · have d : ((k : Int) == (asked : Int)) = false := by simp; omega
      gi_wp2
      exact ⟨KeepsFrom.refl _ _, KpT.refl _ _ _, by omega, hx, hr, hB⟩
  case done =>
    rintro D W hD ⟨h4, _⟩ hK
    omega
  case stop =>
    rintro D c k W hD hk ⟨rfl, hr, hB⟩ hK
    have qs : Stq V.heap.size W (W.putObj D (.deferred none)) := Stq.put _ hD hK rfl
    have hr2 := hr.stq qs
    have hB2 := Stq.below hB (Nat.le_refl _) (by omega) qs
    obtain ⟨r1, r2, r3, r4⟩ := hr2.cells
    gi_wp2
    refine ⟨by simp, .inl ⟨_, _, rfl, run_takeDeferred hK, ?_⟩⟩
    exact ⟨_, (by simp [results, Try.results55, go_sem, r1, r2]), rfl, hB2⟩

theorem stampValueOf_any (b off cap asked : Nat) (st : List Int) (w : World) (h1 : ∀ x ∈ st, 1 ≤ x) (hl : st.length ≤ 1048576) (hb : b < w.heap.size) (hc : ∀ j, j < st.length → w.cell? ⟨b, off + j, none⟩ = some (.int .i64 (st.getD j 0))) (ha : asked ≤ 4000) :
    Calls Try.prog 55 #[.slice (some ⟨b, off, none⟩) st.length cap, .int .i64 (asked : Int)] w fun e w' => e = .returned (sv2 (pf st asked) (pc st asked)) ∧ Below w.heap.size w w' :=
  callsIn_wide.1 (sval_in Fence.wide rfl 8 (fun _ => trivial) rfl (by omega) (fun _ _ _ _ _ h => callsIn_wide.2 h) b off cap asked st w h1 hl hb hc ha)
end Go.Proofs.Ytmllokooceghiaa
