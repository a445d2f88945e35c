/-
  The program's table of all values in memory, and what its iterator leaves as it is. No condition.
-/
import Derived.RangeFuncBox
import Derived.RangeFuncLeaves
import Derived.RangeFuncCalls
import Derived.RangeFuncBound
import Derived.RangeFuncNested
import Derived.Shelf.Abstract
import Derived.Shelf.RegionOpen
import Derived.OwnWalkIn
import Derived.TacticsInMore
import Derived.LoopNIn
import Derived.LoopIn
import Derived.Maps.AppendAt
import Derived.Laws.Tables
import Derived.Test.YtmllokooceghiaaTim
namespace Go.Proofs.Ytmllokooceghiaa
open Go.RowKit

/-- The table in block g. -/
def T2 (w : World) (g : Nat) (A : Nat → Int) (C : Nat → Nat) : Prop :=
  ∃ c : Array Value, w.heap[g]? = some (.cells c 70 (0, 0)) ∧ c.size = 8002 ∧
    ∀ j, j < 4001 → c[j * 2]? = some (.int .i64 (A j)) ∧ c[j * 2 + 1]? = some (.int .u64 (C j : Int))
theorem T2.lt {w : World} {g : Nat} {A : Nat → Int} {C : Nat → Nat} (h : T2 w g A C) : g < w.heap.size := by
  obtain ⟨c, hg, _⟩ := h
  exact (Array.getElem?_eq_some_iff.1 hg).1
theorem T2.below {w w' : World} {g D : Nat} {A : Nat → Int} {C : Nat → Nat} (h : T2 w g A C) (hb : Below D w w') (hD : w.heap.size ≤ D) : T2 w' g A C := by
  have hl := h.lt
  obtain ⟨c, hg, r⟩ := h
  exact ⟨c, (hb.block g (by omega)).trans hg, r⟩
theorem T2.congr {w : World} {g : Nat} {A A2 : Nat → Int} {C C2 : Nat → Nat} (h : T2 w g A C) (e : ∀ j, A j = A2 j ∧ C j = C2 j) : T2 w g A2 C2 := by
  obtain ⟨c, hg, hs, hc⟩ := h
  refine ⟨c, hg, hs, fun j hj => ?_⟩
  rw [← (e j).1, ← (e j).2]
  exact hc j hj
theorem T2.cells {w : World} {g : Nat} {A : Nat → Int} {C : Nat → Nat} (h : T2 w g A C) {j : Nat} (hj : j < 4001) :
    w.cell? ⟨g, j * 2, none⟩ = some (.int .i64 (A j)) ∧ w.cell? ⟨g, j * 2 + 1, none⟩ = some (.int .u64 (C j : Int)) ∧ w.frozen? ⟨g, j * 2, none⟩ = false ∧ w.frozen? ⟨g, j * 2 + 1, none⟩ = false := by
  obtain ⟨c, hg, hs, hc⟩ := h
  have := hc j hj
  refine ⟨?_, ?_, ?_, ?_⟩ <;> simp [World.cell?, World.frozen?, hg, this]
theorem T2.set {w : World} {g j : Nat} {A : Nat → Int} {C : Nat → Nat} (h : T2 w g A C) (a : Int) (c : Nat) :
    T2 ((w.setCell ⟨g, j * 2, none⟩ (.int .i64 a)).setCell ⟨g, j * 2 + 1, none⟩ (.int .u64 (c : Int))) g (fun i => if i = j then a else A i) (fun i => if i = j then c else C i) := by
  obtain ⟨cs, hg, hs, hc⟩ := h
  refine ⟨(cs.setIfInBounds (j * 2) (.int .i64 a)).setIfInBounds (j * 2 + 1) (.int .u64 (c : Int)), ?_, by simpa using hs, fun i hi => ?_⟩
  · simp [World.setCell, Array.getElem?_modify, hg]
  · have hh := hc i hi
    simp only [Array.getElem?_setIfInBounds, Array.size_setIfInBounds]
    by_cases e : i = j
    · subst e
      have h0 : i * 2 < cs.size := by omega
      have h1 : i * 2 + 1 < cs.size := by omega
      simp [h0, h1]
    · have n1 : ¬ j * 2 + 1 = i * 2 := by omega
      have n2 : ¬ j * 2 = i * 2 := by omega
      have n3 : ¬ j * 2 + 1 = i * 2 + 1 := by omega
      have n4 : ¬ j * 2 = i * 2 + 1 := by omega
      simp only [n1, n2, n3, n4, e, if_false]
      exact hh
theorem zc_size (n : Nat) : (zc n).length = n * 2 := by
  induction n with
  | zero => rfl
  | succ n ih => simp only [zc, List.length_cons, ih]; omega
theorem zc_at (n : Nat) : ∀ j, j < n → (zc n)[j * 2]? = some (.int .i64 0) ∧ (zc n)[j * 2 + 1]? = some (.int .u64 0) := by
  induction n with
  | zero => intro j hj; omega
  | succ n ih =>
    intro j hj
    cases j with
    | zero => exact ⟨rfl, rfl⟩
    | succ j =>
      have h := ih j (by omega)
      have e1 : (j + 1) * 2 = j * 2 + 1 + 1 := by omega
      rw [e1]
      simp only [zc, List.getElem?_cons_succ]
      exact h
theorem toldZ_size : toldZ.size = 8002 := by
  unfold toldZ
  simp only [List.size_toArray, List.length_cons, zc_size]
def zeroZ : Array Value := (zc 4001).toArray
theorem zeroZ_size : zeroZ.size = 8002 := by
  unfold zeroZ
  simp only [List.size_toArray, zc_size]
theorem zc_one (n : Nat) : ∀ x ∈ zc n, x.oneCell' = true := by
  induction n with
  | zero => intro x hx; cases hx
  | succ n ih =>
    intro x hx
    simp only [zc, List.mem_cons] at hx
    rcases hx with rfl | rfl | hx
    · rfl
    · rfl
    · exact ih x hx
theorem toldZ_one : toldZ.all (·.oneCell') = true := by
  rw [Array.all_eq_true_iff_forall_mem]
  intro x hx
  unfold toldZ at hx
  simp only [List.mem_toArray, List.mem_cons] at hx
  rcases hx with rfl | rfl | hx
  · rfl
  · rfl
  · exact zc_one _ x hx
theorem Try.zeroT : (Try.prog.info? 70).map (·.zero) = some (some (.agg zeroZ)) := by kernel_rfl
theorem T2.start {w : World} {g : Nat} {st : List Int} (h1 : ∀ n ∈ st, 1 ≤ n) (hg : w.heap[g]? = some (.cells toldZ 70 (0, 0))) :
    T2 w g (fun j => if j < 0 ∨ j = 0 then pf st j else 0) (fun j => if j < 0 ∨ j = 0 then pc st j else 0) := by
  refine ⟨_, hg, toldZ_size, fun j hj => ?_⟩
  have hp := p_zero h1
  cases j with
  | zero => simp [toldZ, hp]
  | succ j =>
    have e1 : (j + 1) * 2 = j * 2 + 1 + 1 := by omega
    have h := zc_at 4000 j (by omega)
    rw [e1]
    simp [toldZ, h]

/-- What the iterator does by itself: of the blocks that lay there only tables of its own, from B on, turn. -/
structure Stp (B : Nat) (W W' : World) : Prop where
  os : W'.os = W.os
  tape : W'.tape = W.tape
  output : W'.output = W.output
  size : W.heap.size ≤ W'.heap.size
  same : ∀ (k : Nat) (o : Obj), W.heap[k]? = some o → (k < B ∨ ∀ c, o ≠ .cells c 70 (0, 0)) → W'.heap[k]? = some o
theorem Stp.refl (B : Nat) (W : World) : Stp B W W := ⟨rfl, rfl, rfl, Nat.le_refl _, fun _ _ h _ => h⟩
theorem Stp.trans {B : Nat} {X Y Z : World} (h : Stp B X Y) (k : Stp B Y Z) : Stp B X Z :=
  ⟨k.os.trans h.os, k.tape.trans h.tape, k.output.trans h.output, Nat.le_trans h.size k.size, fun i o hi ho => k.same i o (h.same i o hi ho) ho⟩
theorem Stp.of_below {B : Nat} {W W' : World} (h : Below W.heap.size W W') : Stp B W W' :=
  ⟨h.os, h.tape, h.output, h.size, fun k _ hk _ => (h.block k (Array.getElem?_eq_some_iff.1 hk).1).trans hk⟩
theorem Stp.setCell {B : Nat} {W : World} {g i : Nat} {c : Array Value} (hB : B ≤ g) (hg : W.heap[g]? = some (.cells c 70 (0, 0))) (v : Value) : Stp B W (W.setCell ⟨g, i, none⟩ v) := by
  have hb := Below.refl g W
  have hs := hb.setCell (p := ⟨g, i, none⟩) (Nat.le_refl g) v
  refine ⟨hs.os, hs.tape, hs.output, hs.size, fun k o hk ho => ?_⟩
  have hne : k ≠ g := by
    rintro rfl
    rw [hg] at hk
    cases hk
    rcases ho with h | h
    · omega
    · exact h c rfl
  simpa [World.setCell, Array.getElem?_modify, Ne.symm hne] using hk
theorem Stp.below {B n₀ : Nat} {w W W' : World} (h : Below n₀ w W) (hn : n₀ ≤ w.heap.size) (hB : n₀ ≤ B) (k : Stp B W W') : Below n₀ w W' := by
  refine ⟨k.os.trans h.os, k.tape.trans h.tape, k.output.trans h.output, Nat.le_trans h.size k.size, fun i hi => ?_⟩
  have e := h.block i hi
  have hlt : i < W.heap.size := by have := h.size; omega
  rw [← e]
  have e2 : W.heap[i]? = some W.heap[i] := Array.getElem?_eq_getElem hlt
  rw [e2]
  exact k.same i _ e2 (.inl (by omega))
theorem Stp.boxed {B b : Nat} {t : TypeId} {v : Value} {W W' : World} (h : Boxed W b t v) (ht : t ≠ 70) (k : Stp B W W') : Boxed W' b t v :=
  k.same b _ h (.inr fun c e => by cases e; exact ht rfl)
theorem Stp.ow {B n₀ : Nat} {v : Value} {ys : List Int} {W W' : World} (h : Ow W n₀ v ys) (k : Stp B W W') : Ow W' n₀ v ys := by
  obtain ⟨h1, h2⟩ := h
  refine ⟨h1, ?_⟩
  rcases h2 with h2 | ⟨g, cap, cur, hv, hg, hh, r⟩
  · exact .inl h2
  · refine .inr ⟨g, cap, cur, hv, hg, k.same g _ hh (.inr fun c e => ?_), r⟩
    cases e

/-- What the loop's body keeps: all below n₀, the iterator's own box, and its table. -/
def KpT (n₀ Bs : Nat) (W W' : World) : Prop :=
  Below n₀ W W' ∧ W'.heap[Bs]? = W.heap[Bs]? ∧ ∀ (k : Nat) (c : Array Value), W.heap[k]? = some (.cells c 70 (0, 0)) → W'.heap[k]? = some (.cells c 70 (0, 0))
theorem KpT.refl (n₀ Bs : Nat) (W : World) : KpT n₀ Bs W W := ⟨Below.refl _ _, rfl, fun _ _ h => h⟩
theorem KpT.trans {n₀ Bs : Nat} {A B C : World} (h : KpT n₀ Bs A B) (k : KpT n₀ Bs B C) : KpT n₀ Bs A C := ⟨h.1.trans k.1, k.2.1.trans h.2.1, fun i c hi => k.2.2 i c (h.2.2 i c hi)⟩
theorem KpT.put {n₀ Bs : Nat} {W : World} {l : Nat} {o : Obj} (o' : Obj) (hn : n₀ ≤ l) (hs : Bs < l) (hl : W.heap[l]? = some o) (ho : o.isCells = false) : KpT n₀ Bs W (W.putObj l o') := by
  have hg := grownBy_putObj' W l o'
  refine ⟨(Below.refl n₀ W).grown hg (by have := (Array.getElem?_eq_some_iff.1 hl).1; omega) (fun j e => by have := Option.some.inj e; omega), hg.block Bs (by have := (Array.getElem?_eq_some_iff.1 hl).1; omega) (fun e => by have := Option.some.inj e; omega), fun k c hk => ?_⟩
  have hne : k ≠ l := by
    rintro rfl
    rw [hl] at hk
    cases hk
    cases ho
  exact (hg.block k (Array.getElem?_eq_some_iff.1 hk).1 (fun e => hne (Option.some.inj e))).trans hk
theorem KpT.table {n₀ Bs g : Nat} {W W' : World} {A : Nat → Int} {C : Nat → Nat} (h : KpT n₀ Bs W W') (t : T2 W g A C) : T2 W' g A C := by
  obtain ⟨c, hg, r⟩ := t
  exact ⟨c, h.2.2 g c hg, r⟩
end Go.Proofs.Ytmllokooceghiaa
