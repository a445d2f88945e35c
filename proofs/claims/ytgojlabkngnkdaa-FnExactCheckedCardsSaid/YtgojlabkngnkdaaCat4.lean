/-
  Slices are put together: an append onto a slice of the call's own, the library's Grow (of nil) and Concat, the model's copy, the library's BinarySearch in sorted numbers, by their contracts. Conditions: at most 2^30 numbers.
-/
import Derived.Test.YtgojlabkngnkdaaMark4
namespace Go.Proofs.Ytgojlabkngnkdaa
open Go.RowKit

/-- What may be appended: nothing, or numbers that lie somewhere. -/
def Src (w : World) (u : Value) (xs : List Int) : Prop :=
  (u = .slice none 0 0 ∧ xs = []) ∨ ∃ b off c, u = .slice (some ⟨b, off, none⟩) xs.length c ∧ b < w.heap.size ∧ ∀ j, j < xs.length → w.cell? ⟨b, off + j, none⟩ = some (.int .i64 (xs.getD j 0))
/-- A slice that isn't nil, and its capacity. -/
def Sp (w : World) (v : Value) (xs : List Int) : Prop :=
  ∃ b off cap, v = .slice (some ⟨b, off, none⟩) xs.length cap ∧ xs.length ≤ cap ∧ cap ≤ maxLen ∧ b < w.heap.size ∧ ∀ j, j < xs.length → w.cell? ⟨b, off + j, none⟩ = some (.int .i64 (xs.getD j 0))

theorem Sp.sv {w : World} {v : Value} {xs : List Int} (h : Sp w v xs) : Sv w v xs := by
  obtain ⟨b, off, cap, hv, _, _, hb, hc⟩ := h
  exact ⟨_, _, hv, fun _ => ⟨b, off, rfl, hb, hc⟩⟩
theorem Src.below {w w' : World} {v : Value} {xs : List Int} {B : Nat} (h : Src w v xs) (hb : Below B w w') (hB : w.heap.size ≤ B) : Src w' v xs := by
  rcases h with h | ⟨b, off, c, hv, hlt, hc⟩
  · exact .inl h
  · exact .inr ⟨b, off, c, hv, Nat.lt_of_lt_of_le hlt hb.size, fun j hj => (hb.cell (p := ⟨b, off + j, none⟩) (by show b < B; omega)).trans (hc j hj)⟩
theorem Sp.below {w w' : World} {v : Value} {xs : List Int} {B : Nat} (h : Sp w v xs) (hb : Below B w w') (hB : w.heap.size ≤ B) : Sp w' v xs := by
  obtain ⟨b, off, c, hv, h1, h2, hlt, hc⟩ := h
  exact ⟨b, off, c, hv, h1, h2, Nat.lt_of_lt_of_le hlt hb.size, fun j hj => (hb.cell (p := ⟨b, off + j, none⟩) (by show b < B; omega)).trans (hc j hj)⟩
theorem Ow.sp {w : World} {B b : Nat} {v : Value} {ys : List Int} (h : Ow w B v ys) (ha : OwnAt v b) : Sp w v ys := by
  have hs := h.sv
  obtain ⟨_, h2⟩ := h
  rcases h2 with ⟨rfl, hn⟩ | ⟨g, cap, cur, rfl, hg, hh, hnc, hcm, hcs, htake⟩
  · simp [OwnAt, Value.ownBlock] at ha
  · obtain ⟨p, c2, hv, hx⟩ := hs
    simp only [Value.slice.injEq] at hv
    obtain ⟨rfl, _, rfl⟩ := hv
    refine ⟨g, 0, cap, rfl, hnc, hcm, (Array.getElem?_eq_some_iff.1 hh).1, fun j hj => ?_⟩
    obtain ⟨b2, off2, hp, _, hc⟩ := hx (by omega)
    simp only [Option.some.injEq, Addr.mk.injEq, and_true] at hp
    obtain ⟨rfl, rfl⟩ := hp
    exact hc j hj

theorem src_cells {w : World} {b off : Nat} {xs : List Int} (hc : ∀ j, j < xs.length → w.cell? ⟨b, off + j, none⟩ = some (.int .i64 (xs.getD j 0))) :
    ∀ j u, (xs.map (Value.int .i64))[j]? = some u → w.cell? ((⟨b, off, none⟩ : Addr).add j) = some u := by
  intro j u hu
  by_cases hj : j < xs.length
  · have h2 := hc j hj
    have e : u = .int .i64 (xs.getD j 0) := by
      rw [List.getElem?_map, List.getElem?_eq_getElem hj] at hu
      rw [List.getD_eq_getElem?_getD, List.getElem?_eq_getElem hj]
      simpa using hu.symm
    rw [e, ← h2]
    by_cases e0 : j = 0
    · subst e0; simp [Addr.add]
    · simp [Addr.add, e0]
  · rw [List.getElem?_eq_none (by simp; omega)] at hu; cases hu

theorem ow_app {w : World} {B : Nat} {v : Value} {ys xs : List Int} (h : w.ownsRow B 3 1 v (ys.length + xs.length) (ys.map (Value.int .i64) ++ xs.map (Value.int .i64))) : Ow w B v (ys ++ xs) := by
  unfold Ow; rw [List.length_append, List.map_append]; exact h

theorem wpList_append_src {w : World} {ops : Array Oper} {rest : List Oper} {o : Oper} {a : Act} {Q : Exit → Act → World → Prop} (hgd : o.guard = none) (s x : Operand)
    (ho : o.op = .call { callee := .builtin .append, args := #[s, x], argTypes := #[22, 22] })
    (B : Nat) (v : Value) (ys : List Int) (hs : a.eval s = v) (hown : Ow w B v ys) (u : Value) (xs : List Int) (hx : a.eval x = u) (hu : Src w u xs) (hlen : ys.length + xs.length ≤ 1099511627776) (hB : B ≤ w.heap.size)
    (h : ∀ v' w', Ow w' B v' (ys ++ xs) → w.grownBy w' v.ownBlock → wpList Try.prog ops Q rest (a.put o.dst v') w') : wpList Try.prog ops Q (o :: rest) a w := by
  obtain ⟨i0, hi, hz0, hz1, hz2⟩ := info_parts Try.infoI
  rcases hu with ⟨hu, rfl⟩ | ⟨b, off, c, hu, _, hc⟩
  · refine wpList_append_own_none hgd s x 22 ho B 3 i0 1 Try.underlying22 hi v ys.length _ hs hown (hx.trans hu) ?_
    exact h v w (by rw [List.append_nil]; exact hown) (grown_refl _ _)
  · refine wpList_append_own w hgd s x 22 ho B 3 i0 (.int .i64 0) 1 8 Try.underlying22 hi hz0 hz1 hz2 rfl (by decide) v ys.length _ hs hown ⟨b, off, none⟩ xs.length c (xs.map (Value.int .i64)) (hx.trans hu) (by simp) (src_cells hc) ?_ (by unfold maxLen; omega) (by omega) hB ?_
    · intro u hu; simp at hu; obtain ⟨_, _, rfl⟩ := hu; rfl
    · intro v' w' h1 h2 _; exact h v' w' (ow_app h1) h2

/-- What is the call's own from B on was written: all below is as it was. -/
theorem Ow.grown {w w' : World} {B : Nat} {v : Value} {ys : List Int} (h : Ow w B v ys) (hB : B ≤ w.heap.size) (hg : w.grownBy w' v.ownBlock) : Below B w w' :=
  (Below.refl B w).grown hg hB fun k hk => (World.ownsRow.lt h k hk).1
theorem Ow.alloc {w : World} {B : Nat} {v : Value} {ys : List Int} (h : Ow w B v ys) (o : Obj) : Ow (w.alloc o) B v ys := World.ownsRow.alloc h o
theorem ow_empty (w : World) : Ow (w.alloc (.cells #[] 3)) w.heap.size (.slice (some ⟨w.heap.size, 0, none⟩) 0 0) [] :=
  World.ownsRow_made w #[] 0 (Nat.le_refl _) (by unfold maxLen; omega) rfl

end Go.Proofs.Ytgojlabkngnkdaa
