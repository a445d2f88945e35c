/-
  A loop over the program's iterator over all values, as one law: the rounds come in order, each with what the table tells. Condition: stamps that are at least 1.
-/
import Derived.Test.YtmllokooceghiaaTea
namespace Go.Proofs.Ytmllokooceghiaa
open Go.RowKit Go.Shelf

/-- Of the blocks that lay there only tables, and what is no cells, turn, from B on. -/
structure Stq (B : Nat) (W W' : World) : Prop where
  os : W'.os = W.os
  tape : W'.tape = W.tape
  output : W'.output = W.output
  size : W.heap.size ≤ W'.heap.size
  same : ∀ (k : Nat) (o : Obj), W.heap[k]? = some o → (k < B ∨ (o.isCells = true ∧ ∀ c, o ≠ .cells c 70 (0, 0))) → W'.heap[k]? = some o
theorem Stq.refl (B : Nat) (W : World) : Stq B W W := ⟨rfl, rfl, rfl, Nat.le_refl _, fun _ _ h _ => h⟩
theorem Stq.trans {B : Nat} {X Y Z : World} (h : Stq B X Y) (k : Stq B Y Z) : Stq B X Z :=
  ⟨k.os.trans h.os, k.tape.trans h.tape, k.output.trans h.output, Nat.le_trans h.size k.size, fun i o hi ho => k.same i o (h.same i o hi ho) ho⟩
theorem Stp.stq {B C : Nat} {X Y : World} (h : Stp C X Y) (hB : B ≤ C) : Stq B X Y :=
  ⟨h.os, h.tape, h.output, h.size, fun i o hi ho => h.same i o hi (ho.elim (fun x => .inl (by omega)) (fun x => .inr x.2))⟩
theorem Stq.alloc (B : Nat) (W : World) (o : Obj) : Stq B W (W.alloc o) := (Stp.of_below (B := B) ((Below.refl _ W).alloc (Nat.le_refl _) o)).stq (Nat.le_refl _)
theorem Stq.put {B l : Nat} {W : World} {o : Obj} (o' : Obj) (hB : B ≤ l) (hl : W.heap[l]? = some o) (ho : o.isCells = false) : Stq B W (W.putObj l o') := by
  have hlt := (Array.getElem?_eq_some_iff.1 hl).1
  have hb : Below l W (W.putObj l o') := (Below.refl l W).grown (grownBy_putObj' W l o') (by omega) (fun j e => by have := Option.some.inj e; omega)
  refine ⟨hb.os, hb.tape, hb.output, hb.size, fun k p hk hp => ?_⟩
  have hne : k ≠ l := by
    rintro rfl
    rw [hl] at hk
    cases hk
    rcases hp with h | h
    · omega
    · rw [ho] at h; cases h.1
  exact ((grownBy_putObj' W l o').block k (Array.getElem?_eq_some_iff.1 hk).1 (fun e => hne (Option.some.inj e))).trans hk
theorem Stq.below {B n₀ : Nat} {w W W' : World} (h : Below n₀ w W) (hn : n₀ ≤ w.heap.size) (hB : n₀ ≤ B) (k : Stq B W W') : Below n₀ w W' := by
  refine ⟨k.os.trans h.os, k.tape.trans h.tape, k.output.trans h.output, Nat.le_trans h.size k.size, fun i hi => ?_⟩
  have e := h.block i hi
  have hlt : i < W.heap.size := by have := h.size; omega
  rw [← e]
  have e2 : W.heap[i]? = some W.heap[i] := Array.getElem?_eq_getElem hlt
  rw [e2]
  exact k.same i _ e2 (.inl (by omega))
theorem Stq.boxed {B b : Nat} {t : TypeId} {v : Value} {W W' : World} (h : Boxed W b t v) (ht : t ≠ 70) (k : Stq B W W') : Boxed W' b t v :=
  k.same b _ h (.inr ⟨rfl, fun c e => by cases e; exact ht rfl⟩)
theorem Stq.ow {B n₀ : Nat} {v : Value} {ys : List Int} {W W' : World} (h : Ow W n₀ v ys) (k : Stq B W W') : Ow W' n₀ v ys := by
  obtain ⟨h1, h2⟩ := h
  refine ⟨h1, ?_⟩
  rcases h2 with h2 | ⟨g, cap, cur, hv, hg, hh, r⟩
  · exact .inl h2
  · refine .inr ⟨g, cap, cur, hv, hg, k.same g _ hh (.inr ⟨rfl, fun c e => ?_⟩), r⟩
    cases e

/-- How a round may end. -/
def rndPost (B n₀ Bs : Nat) (I : Nat → World → Prop) (Ix : Code → Nat → World → Prop) (k : Nat) (W : World) : Exit → Act → World → Prop
  | .normal, _, Y => KeepsFrom B W Y ∧ KpT n₀ Bs W Y ∧ I k Y
  | .ret, _, Y => KeepsFrom B W Y ∧ Ix .ret k Y
  | .exit id, _, Y => KeepsFrom B W Y ∧ Ix (.exit id) k Y
  | .goto _, _, _ => False
  | .panic _, _, _ => False
  | .outgrown, _, _ => False

theorem wpIn_each (F : Fence) (hFw : F = Fence.wide) {n : Nat} (hF : ∀ k, F.fn k) (hro : F.round = none) (hn : 3 ≤ n) (hW : ∀ (k f : Nat) (args : Array Value) (w : World) (R : Ending → World → Prop), Calls Try.prog f args w R → CallsIn F k Try.prog f args w R)
    {g : Operand} {ps : Array Tmp} {assign body : Code} {Q : Exit → Act → World → Prop} {a : Act} {w : World} (Bs n₀ b off cap : Nat) (st : List Int)
    (hg : a.eval g = .func (.func 74) #[] #[.pointer (some ⟨Bs, 0, none⟩)]) (hps : ps.size = 2)
    (h1 : ∀ x ∈ st, 1 ≤ x) (hl : st.length ≤ 1048576) (hb : b < n₀) (hnW : n₀ ≤ w.heap.size) (hBl : Bs < w.heap.size)
    (hBs : w.cell? ⟨Bs, 0, none⟩ = some (.slice (some ⟨b, off, none⟩) st.length cap)) (hc : ∀ j, j < st.length → w.cell? ⟨b, off + j, none⟩ = some (.int .i64 (st.getD j 0)))
    (I : Nat → World → Prop) (I1 : Nat → Nat → World → Prop) (Ix : Code → Nat → World → Prop) (hI : ∀ k X Y, I k X → Stq w.heap.size X Y → I k Y) (hI1 : ∀ k p X Y, I1 k p X → Stq w.heap.size X Y → I1 k p Y) (hIx : ∀ c k X Y, Ix c k X → Stq w.heap.size X Y → Ix c k Y) (h0 : I 0 w) (a₁ : Nat → Nat → Act)
    (hassign : ∀ (l k : Nat) (W : World) (K : Act → World → Prop), I k W → k < 4001 → w.heap.size ≤ W.heap.size → (∀ (p : Nat) (W' : World), KeepsFrom w.heap.size W W' → KpT n₀ Bs W W' → I1 k p W' → K (a₁ k p) W') →
      assign.wpIn (F.inRound l) (n - 1 - 1) Try.prog (Exit.then K (fun _ _ _ => False)) { tmps := (ps.zip #[Value.int .i64 (k : Int), sv2 (pf st k) (pc st k)]).foldl (fun t (p, v) => t.setIfInBounds p v) a.tmps, defers := [] } W)
    (hbody : ∀ (l k p : Nat) (W : World), I1 k p W → k < 4001 → w.heap.size ≤ W.heap.size → body.wpIn (F.inRound l) (n - 1 - 1) Try.prog (rndPost w.heap.size n₀ Bs I Ix (k + 1) W) (a₁ k p) W)
    (hdone : ∀ (D : Nat) (W : World), w.heap.size ≤ D → I 4001 W → W.heap[D]? = some (.deferred (some [])) → Q .normal { a with defers := { target := .collected D, args := #[] } :: a.defers } W)
    (hstop : ∀ (D : Nat) (c : Code) (k : Nat) (W : World), w.heap.size ≤ D → k ≤ 4001 → Ix c k W → W.heap[D]? = some (.deferred (some [])) → c.wpIn F n Try.prog Q { a with defers := { target := .collected D, args := #[] } :: a.defers } W) :
    (Code.rangeFunc g ps assign body).wpIn F n Try.prog Q a w := by
  refine wpIn_rangeFunc fun fn hfn => ?_
  rw [hro]
  generalize hN : w.heap.size = N
  rw [hN] at hnW hBl hI hI1 hIx hassign hbody hdone hstop
  obtain ⟨rc, hrc⟩ : ∃ rc : LoopState → Option Code → Loop, rc = fun s p => { state := s, pending := p, fn := fn, tmps := a.tmps, params := ps, assign := assign, body := body, defers := N } := ⟨_, rfl⟩
  have hen := run_enterLoop_outer (P := Try.prog) (w := w) fn a.tmps ps assign body
  rw [hN] at hen
  obtain ⟨X, hX⟩ : ∃ X, (w.alloc (.deferred (some []))).alloc (.loop (rc .ready none)) = X := ⟨_, rfl⟩
  have hXs : X.heap.size = N + 2 := by rw [← hX]; simp [hN]
  have qX : Stq N w X := by rw [← hX]; exact (Stq.alloc _ _ _).trans (Stq.alloc _ _ _)
  have bX : Below N w X := by rw [← hX, ← hN]; exact ((Below.refl _ w).alloc (Nat.le_refl _) _).alloc (by simp) _
  have dX : X.heap[N]? = some (.deferred (some [])) := by
    rw [← hX, ← hN]; exact (Below.heap_alloc _ _ _ (by simp)).trans (World.alloc_heap_new w _)
  have lX : X.heap[N + 1]? = some (.loop (rc .ready none)) := by
    rw [← hX, ← hN]
    have := World.alloc_heap_new (w.alloc (.deferred (some []))) (.loop (rc .ready none))
    rwa [World.size_alloc] at this
  refine ⟨N + 1, [{ target := .collected N, args := #[] }], X, { target := .fn (.func 74) #[.pointer (some ⟨Bs, 0, none⟩)], args := #[.func (.yield (N + 1)) #[] #[]] }, X, 74,
    #[.func (.yield (N + 1)) #[] #[], .pointer (some ⟨Bs, 0, none⟩)], X, ?_, ?_, fun f' _ => hF f', ?_, fun _ => by omega, ?_⟩
  · rw [hen, ← hX, hrc]
  · simp only [resolve, hg]
    simp [go_sem]
  · simp [invoke, go_sem]
  · have keep : ∀ {A C : World}, Stp X.heap.size A C → ∀ {i : Nat} {o : Obj}, i < N + 2 → A.heap[i]? = some o → C.heap[i]? = some o := fun hs i o hi ho => hs.same i o ho (.inl (by omega))
    refine (each_in F hFw (n - 1) hF hro (by omega) hW (N + 1) Bs n₀ b off cap st h1 hl hb
      (fun k W => I k W ∧ W.heap[N + 1]? = some (.loop (rc .ready none)) ∧ W.heap[N]? = some (.deferred (some [])))
      (fun k W => ∃ c, Ix c k W ∧ W.heap[N + 1]? = some (.loop (rc .done (some c))) ∧ W.heap[N]? = some (.deferred (some [])))
      X (by omega) (by omega)
      (fun k A C h hs => ⟨hI k A C h.1 (hs.stq (by omega)), keep hs (by omega) h.2.1, keep hs (by omega) h.2.2⟩)
      (fun k A C ⟨c, hc1, hc2, hc3⟩ hs => ⟨c, hIx c k A C hc1 (hs.stq (by omega)), keep hs (by omega) hc2, keep hs (by omega) hc3⟩)
      ?_ ((bX.cell (p := ⟨Bs, 0, none⟩) hBl).trans hBs) (fun j hj => (bX.cell (p := ⟨b, off + j, none⟩) (by show b < N; omega)).trans (hc j hj)) ⟨hI 0 w X h0 qX, lX, dX⟩).mono ?_
    · rintro k W ⟨hi, hlp, hdf⟩ hk
      have hlt := (Array.getElem?_eq_some_iff.1 hlp).1
      have hy := run_yield (P := Try.prog) (args := #[Value.int .i64 (k : Int), sv2 (pf st k) (pc st k)]) hlp (by rw [hrc]; show 2 = ps.size; omega)
      rw [hrc] at hy
      refine ⟨fn, _, assign, body, hy, roundIn_of_wpIn hfn (hassign _ k W _ hi hk (by omega) fun p W1 hk1 kp1 i1 => ⟨_, run_beginRound (hk1.same _ _ (by omega) hlp rfl) (by rw [hrc]), ?_⟩)⟩
      have lp1 := hk1.same _ _ (by omega) hlp rfl
      have df1 := hk1.same _ _ (Nat.le_refl _) hdf rfl
      have hlt := (Array.getElem?_eq_some_iff.1 lp1).1
      generalize hY : W1.putObj (N + 1) (.loop { rc .ready none with state := .busy }) = Y
      have lY : Y.heap[N + 1]? = some (.loop { rc .ready none with state := .busy }) := by rw [← hY]; exact World.putObj_heap_same hlt
      have dY : Y.heap[N]? = some (.deferred (some [])) := by rw [← hY]; exact (World.putObj_heap_other (by omega)).trans df1
      have qY : Stq N W1 Y := by rw [← hY]; exact Stq.put _ (by omega) lp1 rfl
      have kY : KpT n₀ Bs W1 Y := by rw [← hY]; exact KpT.put _ (by omega) (by omega) lp1 rfl
      have sY := qY.size
      refine wpIn_mono (hbody (N + 1) k p Y (hI1 k p W1 Y i1 qY) hk (by omega)) ?_
      have last : ∀ (jp : Option Code) (Z : World), KeepsFrom N Y Z → ∃ Z', (Instr.endRound (N + 1) jp).run Try.prog Z = .ok (.bool jp.isNone) Z' ∧ Stq N Z Z' ∧ KpT n₀ Bs Z Z' ∧
          Z'.heap[N + 1]? = some (.loop (rc (if jp.isNone then .ready else .done) jp)) ∧ Z'.heap[N]? = some (.deferred (some [])) := fun jp Z hk => by
        have lZ := hk.same _ _ (by omega) lY rfl
        have dZ := hk.same _ _ (Nat.le_refl _) dY rfl
        have he := run_endRound (P := Try.prog) jp lZ
        refine ⟨_, he, Stq.put _ (by omega) lZ rfl, KpT.put _ (by omega) (by omega) lZ rfl, ?_, (World.putObj_heap_other (by omega)).trans dZ⟩
        rw [World.putObj_heap_same (Array.getElem?_eq_some_iff.1 lZ).1, hrc]
      rintro e a3 Z hp
      cases e with
      | normal =>
        obtain ⟨hk3, hkp, hi3⟩ := hp
        obtain ⟨Z', r1, r2, r3, r4, r5⟩ := last none Z hk3
        exact ⟨_, _, r1, .inl ⟨rfl, ⟨hI _ _ _ hi3 r2, r4, r5⟩, kp1.trans (kY.trans (hkp.trans r3))⟩⟩
      | ret =>
        obtain ⟨hk3, hi3⟩ := hp
        obtain ⟨Z', r1, r2, r3, r4, r5⟩ := last (some .ret) Z hk3
        exact ⟨_, _, r1, .inr ⟨rfl, .ret, hIx _ _ _ _ hi3 r2, r4, r5⟩⟩
      | exit id =>
        obtain ⟨hk3, hi3⟩ := hp
        obtain ⟨Z', r1, r2, r3, r4, r5⟩ := last (some (.exit id)) Z hk3
        exact ⟨_, _, r1, .inr ⟨rfl, .exit id, hIx _ _ _ _ hi3 r2, r4, r5⟩⟩
      | goto t => exact hp.elim
      | panic ch => exact hp.elim
      | outgrown => exact hp.elim
    · rintro e Z ⟨⟨v, rfl⟩, hz⟩
      rcases hz with ⟨hi, hlp, hdf⟩ | ⟨k, hk, c, hi, hlp, hdf⟩
      · have he := run_endLoop (P := Try.prog) hlp (by rw [hrc]; simp)
        rw [hrc] at he
        exact ⟨none, _, he, hdone N _ (Nat.le_refl _) (hI _ _ _ hi (Stq.put _ (by omega) hlp rfl)) ((World.putObj_heap_other (by omega)).trans hdf)⟩
      · have he := run_endLoop (P := Try.prog) hlp (by rw [hrc]; simp)
        rw [hrc] at he
        exact ⟨some c, _, he, hstop N c k _ (Nat.le_refl _) hk (hIx _ _ _ _ hi (Stq.put _ (by omega) hlp rfl)) ((World.putObj_heap_other (by omega)).trans hdf)⟩
end Go.Proofs.Ytmllokooceghiaa
