/-
  OtherCard in the model, by contract. No condition but lengths that fit int.
-/
import Derived.Test.YtgojlabkngnkdaaKgp
import Derived.Test.YtgojlabkngnkdaaQpu
namespace Go.Proofs.Ytgojlabkngnkdaa
open Go.RowKit

theorem Ow.setOut {w : World} {B : Nat} {v : Value} {ys : List Int} (h : Ow w B v ys) {g : Nat} {cur : Array Value} (hg : w.heap[g]? = some (.cells cur 22 (0, 0))) (i : Nat) (x : Value) : Ow (w.setCell ⟨g, i, none⟩ x) B v ys := by
  obtain ⟨h1, h2⟩ := h
  refine ⟨h1, ?_⟩
  rcases h2 with h2 | ⟨q, cap, c, hv, hq, hh, r⟩
  · exact .inl h2
  · refine .inr ⟨q, cap, c, hv, hq, ?_, r⟩
    rw [heap_setCell_other _ _ _ _ (by intro e; subst e; rw [hg] at hh; simp at hh)]
    exact hh
theorem rowL_set {pl : List (List Int)} {k j : Nat} {L : List Int} (hk : k < pl.length) : rowL (pl.set k L) j = if j = k then L else rowL pl j := by
  unfold rowL
  simp only [List.getD_eq_getElem?_getD, List.getElem?_set]
  by_cases e : k = j
  · subst e; simp [hk]
  · rw [if_neg e, if_neg (fun h => e h.symm)]
theorem abv_cell {w w' : World} {E : Nat} (h : Abv E w w') {p : Addr} (hp : E ≤ p.block) : w'.cell? p = w.cell? p := by
  simp only [World.cell?]; rw [h _ hp]
theorem Owa.setRow {w w' : World} {B D C E g cap : Nat} {pl : List (List Int)} {k : Nat} {x : Value} {L : List Int} (h : Owa w B D (.slice (some ⟨g, 0, none⟩) pl.length cap) pl) (hk : k < pl.length) (hx : Ow w C x L)
    (k2 : Abv E (w.setCell ⟨g, k, none⟩ x) w') (hE : E ≤ B) (hC : E ≤ C) :
    Svv w' (.slice (some ⟨g, 0, none⟩) pl.length cap) (pl.set k L) := by
  obtain ⟨vals, h⟩ := h
  rcases id h.out.2 with ⟨e, hn⟩ | ⟨g', cap', cur, e, hg, hh, h1, _, h3, _⟩
  · omega
  · simp only [Value.slice.injEq, Option.some.injEq, Addr.mk.injEq, and_true, true_and] at e
    obtain ⟨rfl, rfl⟩ := e
    have hsz : g < w'.heap.size := by
      have h4 := k2 g (by omega)
      rw [heap_setCell_same w g k _ _ x hh] at h4
      exact (Array.getElem?_eq_some_iff.1 h4).1
    refine ⟨some ⟨g, 0, none⟩, cap, by rw [List.length_set], fun _ => ⟨g, 0, rfl, hsz, fun j hj => ?_⟩⟩
    rw [List.length_set] at hj
    rw [abv_cell k2 (by show E ≤ g; omega)]
    by_cases e : j = k
    · subst e
      refine ⟨x, ?_, ?_⟩
      · rw [Nat.zero_add]
        exact World.cell?_setCell_same _ _ _ (show w.cell? ⟨g, j, none⟩ = some (vals.getD j undef) by have := rowvals h.out rfl hj; rwa [Nat.zero_add] at this)
      · rw [rowL_set hj, if_pos rfl]; exact ((hx.setOut hh j x).abv (k2.up hC)).sv
    · refine ⟨vals.getD j undef, ?_, ?_⟩
      · rw [World.cell?_setCell_other _ _ _ _ (by first | (simp; omega) | simp)]; exact rowvals h.out rfl hj
      · rw [rowL_set hk, if_neg e]; exact (((h.row j hj).setOut hh k x).abv (k2.up hE)).sv
noncomputable def ocR (n : Int) (Ls : List (List Int)) (k : Int) : List (List Int) := if dcB n Ls k = true then Ls.set k.toNat (sLK (fun x => !inL (rowL Ls k.toNat) x) n.toNat) else []

end Go.Proofs.Ytgojlabkngnkdaa
