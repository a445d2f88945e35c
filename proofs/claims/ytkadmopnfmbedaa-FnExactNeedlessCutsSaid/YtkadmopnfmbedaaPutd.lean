/-
  Two slices put together by the library's Concat; and when a slice's row is not the row that was written. Conditions: slices of at most 2^20 numbers.
-/
import Derived.Test.YtkadmopnfmbedaaPutc
namespace Go.Proofs.Ytkadmopnfmbedaa
open Go.RowKit

theorem concat2_any (b : Nat) (v1 v2 : Value) (x1 x2 : List Int) (w : World) (hh : w.heap[b]? = some (.cells #[v1, v2] 22)) (h1 : Src w v1 x1) (h2 : Src w v2 x2)
    (l1 : x1.length ≤ 1048576) (l2 : x2.length ≤ 1048576) :
    Calls Try.prog 38 #[.slice (some ⟨b, 0, none⟩) 2 2] w fun e w' => ∃ u, e = .returned u ∧ Ow w' w.heap.size u (x1 ++ x2) ∧ Below w.heap.size w w' := by
  refine (concat_any b [(v1, x1), (v2, x2)] w (Array.getElem?_eq_some_iff.1 hh).1 (by simp) ?_ ?_ ?_).mono ?_
  · intro j q hq
    match j, hq with
    | 0, hq => simp at hq; subst hq; simp [World.cell?, hh]
    | 1, hq => simp at hq; subst hq; simp [World.cell?, hh]
  · intro j q hq
    match j, hq with
    | 0, hq => simp at hq; subst hq; exact h1
    | 1, hq => simp at hq; subst hq; exact h2
  · intro j q hq
    match j, hq with
    | 0, hq => simp at hq; subst hq; exact l1
    | 1, hq => simp at hq; subst hq; exact l2
  · rintro e w' ⟨u, he, ho, hb⟩
    exact ⟨u, he, by simpa [catTo] using ho, hb⟩

theorem ow_nil (w : World) (B : Nat) : Ow w B (.slice none 0 0) [] := World.ownsRow_nil _ _ _ _
theorem ret_lb {u v : Value} {c d : Bool} (h : u = v) (g : c = d) : Ending.returned (.tuple #[u, .bool c]) = .returned (.tuple #[v, .bool d]) := by rw [h, g]

/-- A slice's row is not the row that was written. -/
def Apart (v : Value) (row : Option Nat) : Prop := v.ownBlock = none ∨ v.ownBlock ≠ row
theorem ap_below {w : World} {B C : Nat} {v u : Value} {ys : List Int} (h : Ow w B v ys) (hu : OwnAt u C) (hC : w.heap.size ≤ C) : Apart v u.ownBlock := by
  unfold OwnAt at hu
  rw [hu]
  cases e : v.ownBlock with
  | none => exact .inl e
  | some k =>
    have := (World.ownsRow.lt h k e).2
    exact .inr (by rw [e]; intro h2; simp only [Option.some.injEq] at h2; omega)
theorem ap_above {w : World} {B C : Nat} {v u : Value} {ys : List Int} (h : Ow w B v ys) (hu : OwnAt u C) (hC : C < B) : Apart v u.ownBlock := by
  unfold OwnAt at hu
  rw [hu]
  cases e : v.ownBlock with
  | none => exact .inl e
  | some k =>
    have := (World.ownsRow.lt h k e).1
    exact .inr (by rw [e]; intro h2; simp only [Option.some.injEq] at h2; omega)
theorem ap_two {w w2 : World} {B C : Nat} {v u : Value} {ys zs : List Int} (h : Ow w B v ys) (hu : Ow w2 C u zs) (hC : w.heap.size ≤ C) : Apart v u.ownBlock := by
  cases e : v.ownBlock with
  | none => exact .inl e
  | some k =>
    have h1 := (World.ownsRow.lt h k e).2
    refine .inr ?_
    rw [e]
    intro h2
    have h3 := (World.ownsRow.lt hu k h2.symm).1
    omega
theorem own_lt {w : World} {B C : Nat} {u : Value} {ys : List Int} (h : Ow w B u ys) (hu : OwnAt u C) : C < w.heap.size := (World.ownsRow.lt h C hu).2
theorem Ow.marked {w w' : World} {B C : Nat} {u : Value} {zs : List Int} (h : Ow w B u zs) (hC : C ≤ B) (hB : B ≤ w.heap.size) (hg : w.grownBy w' u.ownBlock) : Below C w w' := (h.grown hB hg).mono hC


end Go.Proofs.Ytkadmopnfmbedaa
