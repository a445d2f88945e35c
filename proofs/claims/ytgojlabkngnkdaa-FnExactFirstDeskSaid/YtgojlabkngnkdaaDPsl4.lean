/-
  Slices of slices of integers: the laws' own helpers, by their contracts: copied, found equal, measured, marked. Condition: slices of at most 2^40 numbers.
-/
import Derived.Test.YtgojlabkngnkdaaDCat4
import Derived.Deep.AppendLies
namespace Go.Proofs.Ytgojlabkngnkdaa
open Go.RowKit

def rowL (pl : List (List Int)) (j : Nat) : List Int := pl.getD j []
/-- v is a slice of slices that read as the lists pl. -/
def Svv (w : World) (v : Value) (pl : List (List Int)) : Prop :=
  ∃ p cap, v = .slice p pl.length cap ∧ (0 < pl.length → ∃ b off, p = some ⟨b, off, none⟩ ∧ b < w.heap.size ∧ ∀ j, j < pl.length → ∃ u, w.cell? ⟨b, off + j, none⟩ = some u ∧ Sv w u (rowL pl j))
theorem Svv.below {w w' : World} {v : Value} {pl : List (List Int)} {B : Nat} (h : Svv w v pl) (hb : Below B w w') (hB : w.heap.size ≤ B) : Svv w' v pl := by
  obtain ⟨p, cap, hv, hx⟩ := h
  refine ⟨p, cap, hv, fun h0 => ?_⟩
  obtain ⟨b, off, hp, hlt, hc⟩ := hx h0
  refine ⟨b, off, hp, Nat.lt_of_lt_of_le hlt hb.size, fun j hj => ?_⟩
  obtain ⟨u, hu, hs⟩ := hc j hj
  exact ⟨u, (hb.cell (p := ⟨b, off + j, none⟩) (by show b < B; omega)).trans hu, hs.below hb hB⟩
/-- What the call owns: a slice of slices, each in a block of its own, later ones behind earlier ones, all below D. -/
structure Row2 (w : World) (g D : Nat) (U : Nat → Value) (bs : Nat → Nat) (pl : List (List Int)) (k : Nat) : Prop where
  own : ∀ j, k ≤ j → j < pl.length → ∃ ys : List Int, ys.length = (rowL pl j).length ∧ Ow w (bs j) (U j) ys ∧ OwnAt (U j) (bs j)
  pos : ∀ j, j < pl.length → g < bs j ∧ bs j < D
  inc : ∀ i j, i < j → j < pl.length → bs i < bs j
def Oww (w : World) (B D : Nat) (v : Value) (pl : List (List Int)) : Prop :=
  ∃ (g : Nat) (U : Nat → Value) (bs : Nat → Nat), v = .slice (some ⟨g, 0, none⟩) pl.length pl.length ∧ B ≤ g ∧ w.rowIs g 22 pl.length U ∧ Row2 w g D U bs pl 0 ∧ ∀ j, j < pl.length → Ow w (bs j) (U j) (rowL pl j)
theorem Oww.below {w w' : World} {B C D : Nat} {v : Value} {pl : List (List Int)} (h : Oww w B D v pl) (hb : Below C w w') (hC : w.heap.size ≤ C) : Oww w' B D v pl := by
  obtain ⟨g, U, bs, hv, hg, hr, h2, ho⟩ := h
  refine ⟨g, U, bs, hv, hg, hr.of_block (hb.block g (Nat.lt_of_lt_of_le hr.lt hC)), ⟨fun j h0 hj => ?_, h2.pos, h2.inc⟩, fun j hj => (ho j hj).below hb hC⟩
  obtain ⟨ys, e, o, a⟩ := h2.own j h0 hj
  exact ⟨ys, e, o.below hb hC, a⟩

/-- Only what lies from C on and below D was written. -/
structure Mid (C D : Nat) (w w' : World) : Prop where
  os : w'.os = w.os
  tape : w'.tape = w.tape
  output : w'.output = w.output
  size : w.heap.size ≤ w'.heap.size
  block : ∀ i, i < w.heap.size → (i < C ∨ D ≤ i) → w'.heap[i]? = w.heap[i]?
theorem Mid.refl (C D : Nat) (w : World) : Mid C D w w := ⟨rfl, rfl, rfl, Nat.le_refl _, fun _ _ _ => rfl⟩
theorem Mid.below {C D : Nat} {w w' : World} (h : Mid C D w w') (_hC : C ≤ w.heap.size) : Below C w w' :=
  ⟨h.os, h.tape, h.output, h.size, fun i hi => h.block i (by omega) (.inl hi)⟩
set_option maxHeartbeats 1000000 in
theorem szIntS_yes (v : Value) (xs : List Int) (l : Int) (w : World) (h : Sv w v xs) (hl : l ≤ 1048576) (h1 : (xs.length : Int) ≤ l) :
    Calls Try.prog 32 #[v, .int .i64 l] w fun e w' => e = .returned (.int .i64 (l - xs.length)) ∧ w = w' := by
  obtain ⟨p, cap, rfl, hc⟩ := h
  clear hc
  have d : decide (l - xs.length < 0) = false := by simp; omega
  go_enter Try.func32, Try.ntmps32
  go_wp2
  go_ret
  exact ⟨rfl, rfl⟩
set_option maxHeartbeats 1000000 in
theorem szIntS_no (v : Value) (xs : List Int) (l : Int) (w : World) (h : Sv w v xs) (hl : 0 ≤ l) (hx : xs.length ≤ 9223372036854775807) (h1 : l < (xs.length : Int)) :
    Calls Try.prog 32 #[v, .int .i64 l] w fun e w' => e = .returned (.int .i64 (-1)) ∧ w = w' := by
  obtain ⟨p, cap, rfl, hc⟩ := h
  clear hc
  have d : decide (l - xs.length < 0) = true := by simp; omega
  go_enter Try.func32, Try.ntmps32
  go_wp2
  go_ret
  exact ⟨rfl, rfl⟩

end Go.Proofs.Ytgojlabkngnkdaa
