/-
  Slices of slices of integers: the laws' own helpers, by their contracts: copied, found equal, measured, marked. Condition: slices of at most 2^40 numbers.
-/
import Derived.Test.YtgojlabkngnkdaaCat4
import Derived.Deep.AppendLies
namespace Go.Proofs.Ytgojlabkngnkdaa
open Go.RowKit

def rowL (pl : List (List Int)) (j : Nat) : List Int := pl.getD j []
/-- v is a slice of slices that read as the lists pl. -/
def Svv (w : World) (v : Value) (pl : List (List Int)) : Prop :=
  ∃ p cap, v = .slice p pl.length cap ∧ (0 < pl.length → ∃ b off, p = some ⟨b, off, none⟩ ∧ b < w.heap.size ∧ ∀ j, j < pl.length → ∃ u, w.cell? ⟨b, off + j, none⟩ = some u ∧ Sv w u (rowL pl j))
theorem Svv.below {w w' : World} {v : Value} {pl : List (List Int)} {B : Nat} (h : Svv w v pl) (hb : Below B w w') (hB : w.heap.size ≤ B) : Svv w' v pl := by
  obtain ⟨p, cap, hv, hx⟩ := h
  refine ⟨p, cap, hv, fun h0 => ?_⟩
  obtain ⟨b, off, hp, hlt, hc⟩ := hx h0
  refine ⟨b, off, hp, Nat.lt_of_lt_of_le hlt hb.size, fun j hj => ?_⟩
  obtain ⟨u, hu, hs⟩ := hc j hj
  exact ⟨u, (hb.cell (p := ⟨b, off + j, none⟩) (by show b < B; omega)).trans hu, hs.below hb hB⟩
/-- What the call owns: a slice of slices, each in a block of its own, later ones behind earlier ones, all below D. -/
structure Row2 (w : World) (g D : Nat) (U : Nat → Value) (bs : Nat → Nat) (pl : List (List Int)) (k : Nat) : Prop where
  own : ∀ j, k ≤ j → j < pl.length → ∃ ys : List Int, ys.length = (rowL pl j).length ∧ Ow w (bs j) (U j) ys ∧ OwnAt (U j) (bs j)
  pos : ∀ j, j < pl.length → g < bs j ∧ bs j < D
  inc : ∀ i j, i < j → j < pl.length → bs i < bs j
def Oww (w : World) (B D : Nat) (v : Value) (pl : List (List Int)) : Prop :=
  ∃ (g : Nat) (U : Nat → Value) (bs : Nat → Nat), v = .slice (some ⟨g, 0, none⟩) pl.length pl.length ∧ B ≤ g ∧ w.rowIs g 22 pl.length U ∧ Row2 w g D U bs pl 0 ∧ ∀ j, j < pl.length → Ow w (bs j) (U j) (rowL pl j)
theorem Oww.svv {w : World} {B D : Nat} {v : Value} {pl : List (List Int)} (h : Oww w B D v pl) : Svv w v pl := by
  obtain ⟨g, U, bs, hv, hg, hr, h2, ho⟩ := h
  refine ⟨some ⟨g, 0, none⟩, pl.length, hv, fun h0 => ⟨g, 0, rfl, hr.lt, fun j hj => ⟨U j, ?_, (ho j hj).sv⟩⟩⟩
  rw [Nat.zero_add]
  exact hr.cell hj
theorem Oww.below {w w' : World} {B C D : Nat} {v : Value} {pl : List (List Int)} (h : Oww w B D v pl) (hb : Below C w w') (hC : w.heap.size ≤ C) : Oww w' B D v pl := by
  obtain ⟨g, U, bs, hv, hg, hr, h2, ho⟩ := h
  refine ⟨g, U, bs, hv, hg, hr.of_block (hb.block g (Nat.lt_of_lt_of_le hr.lt hC)), ⟨fun j h0 hj => ?_, h2.pos, h2.inc⟩, fun j hj => (ho j hj).below hb hC⟩
  obtain ⟨ys, e, o, a⟩ := h2.own j h0 hj
  exact ⟨ys, e, o.below hb hC, a⟩

/-- Only what lies from C on and below D was written. -/
structure Mid (C D : Nat) (w w' : World) : Prop where
  os : w'.os = w.os
  tape : w'.tape = w.tape
  output : w'.output = w.output
  size : w.heap.size ≤ w'.heap.size
  block : ∀ i, i < w.heap.size → (i < C ∨ D ≤ i) → w'.heap[i]? = w.heap[i]?
theorem Mid.refl (C D : Nat) (w : World) : Mid C D w w := ⟨rfl, rfl, rfl, Nat.le_refl _, fun _ _ _ => rfl⟩
theorem Mid.grown {C D g : Nat} {w w1 w2 : World} (h : Mid C D w w1) (k : w1.grownBy w2 (some g)) (h1 : C ≤ g) (h2 : g < D) : Mid C D w w2 :=
  ⟨k.os.trans h.os, k.tape.trans h.tape, k.output.trans h.output, Nat.le_trans h.size k.size, fun i hi hn => (k.block i (Nat.lt_of_lt_of_le hi h.size) (by simp only [ne_eq, Option.some.injEq]; omega)).trans (h.block i hi hn)⟩
theorem Mid.below {C D : Nat} {w w' : World} (h : Mid C D w w') (_hC : C ≤ w.heap.size) : Below C w w' :=
  ⟨h.os, h.tape, h.output, h.size, fun i hi => h.block i (by omega) (.inl hi)⟩
/-- How many numbers the first k rows hold. -/
def tot (pl : List (List Int)) : Nat → Nat
  | 0 => 0
  | k + 1 => tot pl k + (rowL pl k).length

/-- What is small: so many rows, so many numbers. -/
def Few2 (pl : List (List Int)) : Prop := pl.length + tot pl pl.length ≤ 1048576
end Go.Proofs.Ytgojlabkngnkdaa
