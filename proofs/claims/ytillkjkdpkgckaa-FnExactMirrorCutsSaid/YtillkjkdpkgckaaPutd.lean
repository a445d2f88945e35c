/-
  Two slices put together by the library's Concat; and when a slice's row is not the row that was written. Conditions: slices of at most 2^20 numbers.
-/
import Derived.Test.YtillkjkdpkgckaaPutc
namespace Go.Proofs.Ytillkjkdpkgckaa
open Go.RowKit

theorem ow_nil (w : World) (B : Nat) : Ow w B (.slice none 0 0) [] := World.ownsRow_nil _ _ _ _
theorem ret_lb {u v : Value} {c d : Bool} (h : u = v) (g : c = d) : Ending.returned (.tuple #[u, .bool c]) = .returned (.tuple #[v, .bool d]) := by rw [h, g]

/-- A slice's row is not the row that was written. -/
def Apart (v : Value) (row : Option Nat) : Prop := v.ownBlock = none ∨ v.ownBlock ≠ row
theorem ap_below {w : World} {B C : Nat} {v u : Value} {ys : List Int} (h : Ow w B v ys) (hu : OwnAt u C) (hC : w.heap.size ≤ C) : Apart v u.ownBlock := by
  unfold OwnAt at hu
  rw [hu]
  cases e : v.ownBlock with
  | none => exact .inl e
  | some k =>
    have := (World.ownsRow.lt h k e).2
    exact .inr (by rw [e]; intro h2; simp only [Option.some.injEq] at h2; omega)
theorem ap_above {w : World} {B C : Nat} {v u : Value} {ys : List Int} (h : Ow w B v ys) (hu : OwnAt u C) (hC : C < B) : Apart v u.ownBlock := by
  unfold OwnAt at hu
  rw [hu]
  cases e : v.ownBlock with
  | none => exact .inl e
  | some k =>
    have := (World.ownsRow.lt h k e).1
    exact .inr (by rw [e]; intro h2; simp only [Option.some.injEq] at h2; omega)
theorem ap_two {w w2 : World} {B C : Nat} {v u : Value} {ys zs : List Int} (h : Ow w B v ys) (hu : Ow w2 C u zs) (hC : w.heap.size ≤ C) : Apart v u.ownBlock := by
  cases e : v.ownBlock with
  | none => exact .inl e
  | some k =>
    have h1 := (World.ownsRow.lt h k e).2
    refine .inr ?_
    rw [e]
    intro h2
    have h3 := (World.ownsRow.lt hu k h2.symm).1
    omega
theorem own_lt {w : World} {B C : Nat} {u : Value} {ys : List Int} (h : Ow w B u ys) (hu : OwnAt u C) : C < w.heap.size := (World.ownsRow.lt h C hu).2
theorem Ow.marked {w w' : World} {B C : Nat} {u : Value} {zs : List Int} (h : Ow w B u zs) (hC : C ≤ B) (hB : B ≤ w.heap.size) (hg : w.grownBy w' u.ownBlock) : Below C w w' := (h.grown hB hg).mono hC


end Go.Proofs.Ytillkjkdpkgckaa
