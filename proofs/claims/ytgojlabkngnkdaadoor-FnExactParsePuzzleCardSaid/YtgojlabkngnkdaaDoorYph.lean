/-
  Boxes, rows of texts and the three ways that a text may read, for the walks of both readings. No condition.
-/
import Derived.Test.YtgojlabkngnkdaaDoorPpz
import Derived.Test.YtgojlabkngnkdaaDoorPsiC
import Derived.Test.YtgojlabkngnkdaaDoorPsiP
import Derived.Test.YtgojlabkngnkdaaDoorYca
import Derived.Deep.RegionLaw
import Derived.StillTailTactics
namespace Go.Proofs.YtgojlabkngnkdaaDoor
open Go.RowKit

theorem box_set {w : World} {b : Nat} {v x : Value} {t : TypeId} (h : w.heap[b]? = some (.cells #[v] t (0, 0))) : (w.setCell ⟨b, 0, none⟩ x).heap[b]? = some (.cells #[x] t (0, 0)) := by
  simp [World.setCell, Array.getElem?_modify, h]
theorem box_far {w : World} {g k i : Nat} {o : Obj} (h : w.heap[g]? = some o) (hn : g ≠ k) (v : Value) : (w.setCell ⟨k, i, none⟩ v).heap[g]? = some o := by
  rw [heap_setCell_other _ _ _ _ (by show g ≠ k; omega)]; exact h
theorem box_lt {w : World} {g : Nat} {o : Obj} (h : w.heap[g]? = some o) : g < w.heap.size := (Array.getElem?_eq_some_iff.1 h).1
/-- A row of texts in the memory, as an object. -/
theorem Ws.obj {w : World} {B : Nat} {v : Value} {ls : List ByteArray} (h : Ws w B v ls) (h0 : 0 < ls.length) :
    ∃ g cap o, v = .slice (some ⟨g, 0, none⟩) ls.length cap ∧ B ≤ g ∧ w.heap[g]? = some o ∧ ∀ (W : World), W.heap[g]? = some o → ∀ (j : Nat) x, ls[j]? = some x → W.cell? ⟨g, j, none⟩ = some (.string x) := by
  obtain ⟨_, h2⟩ := h
  rcases h2 with ⟨_, hn⟩ | ⟨g, cap, cur, hv, hg, hh, hnc, hcm, hcs, htake⟩
  · omega
  · refine ⟨g, cap, _, hv, hg, hh, fun W hW j x hx => ?_⟩
    have hj : j < ls.length := (List.getElem?_eq_some_iff.1 hx).1
    have e : cur[j]? = (ls.map Value.string)[j]? := by
      rw [← htake, List.getElem?_take, if_pos (by omega)]; simp
    simp only [World.cell?, hW]
    rw [e, List.getElem?_map, hx]; rfl
theorem wlP_append_clue {w : World} {ops : Array Oper} {rest : List Oper} {o : Oper} {a : Act} {Q : Exit → Act → World → Prop} (hgd : o.guard = none) (s x : Operand)
    (ho : o.op = .call { callee := .builtin .append, args := #[s, x], argTypes := #[41, 41] })
    (B : Nat) (v : Value) (ps : List Cl) (hs : a.eval s = v) (hr : Ck w B v ps) (u : Value) (qs : List Cl) (hx : a.eval x = u) (hu : Cs w u qs) (hlen : ps.length + qs.length ≤ 1073741824) (hB : B ≤ w.heap.size)
    (h : ∀ v' w', Ck w' B v' (ps ++ qs) → w.grownBy w' v.ownBlock → wpList Tryd.prog ops Q rest (a.put o.dst v') w') : wpList Tryd.prog ops Q (o :: rest) a w :=
  wpList_plain hgd fun _ hK => wp_append_clue s x ho B v ps hs hr u qs hx hu hlen hB fun v' w' h1 h2 => hK _ _ (h v' w' h1 h2)
theorem cell_far {w : World} {g k : Nat} {x v : Value} (h : w.cell? ⟨g, 0, none⟩ = some x) (hn : g ≠ k) : (w.setCell ⟨k, 0, none⟩ v).cell? ⟨g, 0, none⟩ = some x := by
  rw [World.cell?_setCell_other _ _ _ _ (by intro e; injection e with e; omega)]; exact h
theorem ret_pz {u : Value} {a b : Bool} (h : a = b) : Ending.returned (.tuple #[.agg #[u], .bool a]) = .returned (.tuple #[.agg #[u], .bool b]) := by rw [h]
theorem pp_cases (l : List UInt8) : (pzB (pf l) = false ∧ ppB l = false) ∨ (pzB (pf l) = true ∧ ppB l = true ∧ ppR l = pf l ∧ txtP (pf l) (pf l).length = l) ∨ (pzB (pf l) = true ∧ ppB l = false ∧ txtP (pf l) (pf l).length ≠ l) := by
  cases hg : pzB (pf l) with
  | false => exact .inl ⟨rfl, by unfold ppB; rw [hg]; rfl⟩
  | true =>
    by_cases ht : txtP (pf l) (pf l).length = l
    · have P := pp_of hg ht
      exact .inr (.inl ⟨rfl, P.1, P.2, ht⟩)
    · exact .inr (.inr ⟨rfl, by unfold ppB; rw [hg]; simp [ht], ht⟩)
theorem pf_take {l : List UInt8} (hn : l ≠ []) : pf l = (C.splitW l).map cw := by unfold pf; rw [if_neg hn]

end Go.Proofs.YtgojlabkngnkdaaDoor
