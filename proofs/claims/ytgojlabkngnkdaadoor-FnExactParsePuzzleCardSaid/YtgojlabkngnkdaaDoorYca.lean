/-
  Slices of clues put together: appends, the library's Grow (of nil), Concat and Clone, by their contracts. Conditions: at most 100 slices of at most 1,024 clues.
-/
import Derived.Test.YtgojlabkngnkdaaDoorYtc
import Derived.Lib.AppendZerosOnto
namespace Go.Proofs.YtgojlabkngnkdaaDoor
open Go.RowKit

def Cs (w : World) (u : Value) (xs : List Cl) : Prop :=
  (u = .slice none 0 0 ∧ xs = []) ∨ ∃ g o c, u = .slice (some ⟨g, o, none⟩) xs.length c ∧ g < w.heap.size ∧ ∀ j y, (flC xs)[j]? = some y → w.cell? ⟨g, o + j, none⟩ = some y
theorem Cs.below {w w' : World} {u : Value} {xs : List Cl} {B : Nat} (h : Cs w u xs) (hb : Below B w w') (hB : w.heap.size ≤ B) : Cs w' u xs := by
  rcases h with h | ⟨g, o, c, hu, hg, hc⟩
  · exact .inl h
  · exact .inr ⟨g, o, c, hu, Nat.lt_of_lt_of_le hg hb.size, fun j y hy => (hb.cell (p := ⟨g, o + j, none⟩) (by show g < B; omega)).trans (hc j y hy)⟩
theorem zc3 : (Value.agg #[.int .i64 0, .int .i64 0, .int .i64 0]).cells.size = 3 := rfl
theorem wp_append_clue {w : World} {o : Oper} {a : Act} {K : Act → World → Prop} {Q : Exit → Act → World → Prop} (s x : Operand)
    (ho : o.op = .call { callee := .builtin .append, args := #[s, x], argTypes := #[41, 41] })
    (B : Nat) (v : Value) (ps : List Cl) (hs : a.eval s = v) (hr : Ck w B v ps) (u : Value) (qs : List Cl) (hx : a.eval x = u) (hu : Cs w u qs) (hlen : ps.length + qs.length ≤ 1073741824) (hB : B ≤ w.heap.size)
    (h : ∀ v' w', Ck w' B v' (ps ++ qs) → w.grownBy w' v.ownBlock → K (a.put o.dst v') w') : o.wp Tryd.prog a w K Q := by
  obtain ⟨i0, hi, hz0, hz1, hz2⟩ := clue_info
  rcases hu with ⟨rfl, rfl⟩ | ⟨g, off, c, rfl, hg, hc⟩
  · have hrun := run_append_owned_none (P := Tryd.prog) (w := w) B 41 o.type 73 i0 3 Tryd.underlying41 hi v ps.length _ hr
    unfold Oper.wp
    simp [execOp, ho, resolve, invoke, builtin, hs, hx, hrun, Result.andThen]
    exact h v w (by rw [List.append_nil]; exact hr) (grown_refl _ _)
  · obtain ⟨v', w', r, k2, k3, _⟩ := run_append_own (P := Tryd.prog) w B 41 o.type 73 i0 _ 3 24 Tryd.underlying41 hi hz0 hz1 hz2 zc3 (by decide) v ps.length _ hr ⟨g, off, none⟩ qs.length c (flC qs) (flC_len qs)
      (fun j y hy => by rw [addr_add]; exact hc j y hy)
      (flC_one qs) (by unfold maxLen; omega) (by omega) hB
    unfold Oper.wp execOp
    simp only [ho, resolve, invoke, builtin, Sem.run_bind, Sem.run_pure, Result.andThen_ok, List.map_toArray, List.map_cons, List.map_nil, hs, hx, r]
    exact h v' w' (by unfold Ck; rw [List.length_append, flC_app]; exact k2) k3
theorem step_append_clue {w : World} {ops : Array Oper} {o : Oper} {a : Act} {K : Act → World → Prop} {Q : Exit → Act → World → Prop} {E : Prop} (hgd : o.guard = none) (s x : Operand)
    (ho : o.op = .call { callee := .builtin .append, args := #[s, x], argTypes := #[41, 41] })
    (B : Nat) (v : Value) (ps : List Cl) (hs : a.eval s = v) (hr : Ck w B v ps) (u : Value) (qs : List Cl) (hx : a.eval x = u) (hu : Cs w u qs) (hlen : ps.length + qs.length ≤ 1073741824) (hB : B ≤ w.heap.size)
    (h : ∀ v' w', Ck w' B v' (ps ++ qs) → w.grownBy w' v.ownBlock → K (a.put o.dst v') w') :
    if Region.wanted o (yielded ops a.tmps) = true then Oper.wp Tryd.prog o a w K Q else E := by
  have hw : Region.wanted o (yielded ops a.tmps) = true := by simp [Region.wanted, hgd]
  rw [if_pos hw]
  exact wp_append_clue s x ho B v ps hs hr u qs hx hu hlen hB h
theorem CkGrown {w w' : World} {B : Nat} {v : Value} {ps : List Cl} (h : Ck w B v ps) (hB : B ≤ w.heap.size) (hg : w.grownBy w' v.ownBlock) : Below B w w' :=
  (Below.refl B w).grown hg hB fun k hk => (World.ownsRow.lt h k hk).1
theorem Ck.cs {w : World} {B : Nat} {v : Value} {cs : List Cl} (h : Ck w B v cs) : Cs w v cs := by
  obtain ⟨h1, h2⟩ := h
  rcases h2 with ⟨e, h0⟩ | ⟨g, cap, cur, hv, hg, hh, hl, hm, hs, ht⟩
  · exact .inl ⟨e, List.length_eq_zero_iff.1 h0⟩
  · refine .inr ⟨g, 0, cap, hv, (Array.getElem?_eq_some_iff.1 hh).1, fun j y hy => ?_⟩
    rw [Nat.zero_add, cell_of_row _ _ _ _ _ _ hh]
    rw [← ht, List.getElem?_take] at hy
    split at hy
    · simpa using hy
    · cases hy
end Go.Proofs.YtgojlabkngnkdaaDoor
