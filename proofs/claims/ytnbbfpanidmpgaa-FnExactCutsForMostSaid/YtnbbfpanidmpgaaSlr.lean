/-
  A slice of slices of the call's own: how many it holds and what the first one reads as; what a search keeps of the memory. No condition.
-/
import Derived.Test.YtnbbfpanidmpgaaPay
import Derived.Test.YtnbbfpanidmpgaaCsel
import Derived.RangeFuncBox
namespace Go.Proofs.Ytnbbfpanidmpgaa
open Go.RowKit

theorem own_ne {w : World} {B C : Nat} {t s : TypeId} {n k : Nat} {v u : Value} {xs ys : List Value} (h : w.ownsRow B t 1 v n xs) (g : w.ownsRow C s 1 u k ys) (hts : s ≠ t) : u.ownBlock = none ∨ u.ownBlock ≠ v.ownBlock := by
  rcases g.2 with ⟨rfl, _⟩ | ⟨gu, capu, curu, rfl, _, hu, _⟩
  · exact .inl rfl
  · refine .inr fun e => ?_
    rcases h.2 with ⟨rfl, _⟩ | ⟨gv, capv, curv, rfl, _, hv, _⟩
    · simp [Value.ownBlock] at e
    · have e2 : gu = gv := by simpa [Value.ownBlock] using e
      subst e2
      rw [hu] at hv
      simp at hv
      exact hts hv.2
theorem Ow.src {w : World} {B : Nat} {v : Value} {ys : List Int} (h : Ow w B v ys) : Src w v ys := by
  by_cases hn : ys = []
  · rcases h.form with ⟨rfl, rfl⟩ | ⟨g, cap, rfl, _, hg⟩
    · exact .inl ⟨rfl, rfl⟩
    · subst hn; exact .inr ⟨g, 0, cap, rfl, hg, fun j hj => by simp at hj⟩
  · exact (h.sp_ne hn).src
/-- A slice of slices: n of them, the first one (if there is one) reads as hd. -/
def RowS (w : World) (B : Nat) (v : Value) (n : Nat) (hd : List Int) : Prop := ∃ vals : List Value, w.ownsRow B 22 1 v n vals ∧ (0 < n → Ow w B (vals.getD 0 undef) hd)
theorem RowS.nil (w : World) (B : Nat) (hd : List Int) : RowS w B (.slice none 0 0) 0 hd := ⟨[], World.ownsRow_nil _ _ _ _, fun h => by omega⟩
theorem row_below {w w' : World} {B C n : Nat} {t : TypeId} {v : Value} {xs : List Value} (h : w.ownsRow B t 1 v n xs) (hb : Below C w w') (hC : w.heap.size ≤ C) : w'.ownsRow B t 1 v n xs := by
  obtain ⟨h1, h2⟩ := h
  refine ⟨h1, ?_⟩
  rcases h2 with h2 | ⟨g, cap, cur, hv, hg, hh, r⟩
  · exact .inl h2
  · refine .inr ⟨g, cap, cur, hv, hg, ?_, r⟩
    rw [hb.block g (Nat.lt_of_lt_of_le (Array.getElem?_eq_some_iff.1 hh).1 hC)]; exact hh
theorem RowS.below {w w' : World} {B C n : Nat} {v : Value} {hd : List Int} (h : RowS w B v n hd) (hb : Below C w w') (hC : w.heap.size ≤ C) : RowS w' B v n hd := by
  obtain ⟨vals, h1, h2⟩ := h
  exact ⟨vals, row_below h1 hb hC, fun hn => (h2 hn).below hb hC⟩
theorem RowS.kept {w w' : World} {B n : Nat} {v : Value} {hd : List Int} {row : Option Nat} (h : RowS w B v n hd) (hg : w.grownBy w' row) (hr : ∀ (vals : List Value), w.ownsRow B 22 1 v n vals → (v.ownBlock = none ∨ v.ownBlock ≠ row)) (hr2 : ∀ u, Ow w B u hd → (u.ownBlock = none ∨ u.ownBlock ≠ row)) : RowS w' B v n hd := by
  obtain ⟨vals, h1, h2⟩ := h
  exact ⟨vals, h1.kept hg (hr vals h1), fun hn => (h2 hn).kept hg (hr2 _ (h2 hn))⟩
def hdA (n : Nat) (hd : List Int) (L : List (List Int)) : List Int := if n = 0 then L.headD [] else hd
theorem hdA_app (n : Nat) (hd : List Int) (L M : List (List Int)) : hdA n hd (L ++ M) = hdA (n + L.length) (hdA n hd L) M := by
  unfold hdA
  by_cases h : n = 0
  · subst h
    cases L with
    | nil => simp
    | cons a l => simp
  · simp [h]
theorem hdA_nil {n : Nat} {hd : List Int} : 0 < n → hdA n hd [] = hd := fun h => by unfold hdA; rw [if_neg (by omega)]
/-- One slice more. -/
theorem RowS.appended {w w' : World} {B n : Nat} {v v' u : Value} {hd c : List Int} {vals : List Value} (h1 : w.ownsRow B 22 1 v n vals) (h2 : 0 < n → Ow w B (vals.getD 0 undef) hd) (hu : Ow w B u c)
    (ho : w'.ownsRow B 22 1 v' (n + 1) (vals ++ [u])) (hg : w.grownBy w' v.ownBlock) : RowS w' B v' (n + 1) (hdA n hd [c]) := by
  refine ⟨vals ++ [u], ho, fun _ => ?_⟩
  have hl : vals.length = n := by have := h1.1; simpa using this
  unfold hdA
  by_cases h : n = 0
  · subst h
    have : vals = [] := List.length_eq_zero_iff.1 hl
    subst this
    rw [if_pos rfl]
    exact hu.kept hg (own_ne h1 hu (by decide))
  · rw [if_neg h]
    have e : (vals ++ [u]).getD 0 undef = vals.getD 0 undef := by
      simp only [List.getD_eq_getElem?_getD]; rw [List.getElem?_append_left (by omega)]
    rw [e]
    exact (h2 (by omega)).kept hg (own_ne h1 (h2 (by omega)) (by decide))
/-- What a search keeps: all below P, and every row that isn't one of slices. -/
structure K2 (P : Nat) (w w' : World) : Prop where
  below : Below P w w'
  rows : ∀ (k : Nat) (c : Array Value) (t : TypeId) (fr : Nat × Nat), w.heap[k]? = some (Obj.cells c t fr) → t ≠ 22 → t ≠ 47 → w'.heap[k]? = some (Obj.cells c t fr)
theorem K2.refl (P : Nat) (w : World) : K2 P w w := ⟨Below.refl _ _, fun _ _ _ _ h _ _ => h⟩
theorem K2.trans {P : Nat} {a b c : World} (h : K2 P a b) (k : K2 P b c) : K2 P a c := ⟨h.below.trans k.below, fun i x t fr hx h1 h2 => k.rows i x t fr (h.rows i x t fr hx h1 h2) h1 h2⟩
theorem K2.of {P : Nat} {w w' : World} (h : Below w.heap.size w w') (hP : P ≤ w.heap.size) : K2 P w w' :=
  ⟨h.mono hP, fun k c t fr hx _ _ => by rw [h.block k (Array.getElem?_eq_some_iff.1 hx).1]; exact hx⟩
theorem K2.grown {P B n : Nat} {w w' : World} {v : Value} {vals : List Value} (ho : w.ownsRow B 22 1 v n vals) (hg : w.grownBy w' v.ownBlock) (hP : P ≤ B) (hB : B ≤ w.heap.size) : K2 P w w' := by
  refine ⟨(Below.refl P w).grown hg (by omega) (fun k e => by have := (World.ownsRow.lt ho k e).1; omega), fun k c t fr hx h1 _ => ?_⟩
  refine (hg.block k (Array.getElem?_eq_some_iff.1 hx).1 fun e => ?_).trans hx
  rcases ho.2 with ⟨rfl, _⟩ | ⟨g, cap, cur, rfl, _, hh, _⟩
  · simp [Value.ownBlock] at e
  · have e2 : k = g := by simpa [Value.ownBlock] using e
    subst e2
    rw [hx] at hh
    simp at hh
    exact h1 hh.2.1
theorem K2.store {P : Nat} {w : World} {v : Value} (h : Boxed w P 47 v) (u : Value) : K2 P w (w.setCell ⟨P, 0, none⟩ u) := by
  refine ⟨(Below.refl P w).setCell (Nat.le_refl _) _, fun k c t fr hx _ h2 => ?_⟩
  have hne : k ≠ P := by
    intro e
    rw [e, show w.heap[P]? = _ from h] at hx
    simp at hx
    exact h2 hx.2.1.symm
  rw [heap_setCell_other _ _ _ _ hne]
  exact hx
theorem Ow.k2 {P B : Nat} {w w' : World} {v : Value} {ys : List Int} (h : Ow w B v ys) (k : K2 P w w') : Ow w' B v ys := by
  obtain ⟨h1, h2⟩ := h
  refine ⟨h1, ?_⟩
  rcases h2 with h2 | ⟨g, cap, cur, hv, hg, hh, r⟩
  · exact .inl h2
  · exact .inr ⟨g, cap, cur, hv, hg, k.rows g _ _ _ hh (by decide) (by decide), r⟩
end Go.Proofs.Ytnbbfpanidmpgaa
