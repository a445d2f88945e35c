/-
  Slices of cards: a literal of one, appended to, by laws for a walk. Condition: at most 2^30 cards.
-/
import Derived.Test.YtgojlabkngnkdaaQb
import Derived.Great.BuildSlice
import Derived.Deep.RegionLaw
import Derived.Laws.AppendOwnNone
namespace Go.Proofs.Ytgojlabkngnkdaa
open Go.RowKit

theorem Try.infoC : (Try.prog.info? 82).map (fun i => (i.zero, i.size, i.bytes)) = some (some (.agg Try.zeroCells82), 128, 128) := by kernel_rfl
theorem card_info : ∃ i, Try.prog.info? 82 = some i ∧ i.zero = some (.agg Try.zeroCells82) ∧ i.size = 128 ∧ i.bytes = 128 := by
  have := Try.infoC
  cases hq : Try.prog.info? 82 with
  | none => rw [hq] at this; cases this
  | some i => rw [hq] at this; simp only [Option.map_some, Option.some.injEq, Prod.mk.injEq] at this; exact ⟨i, rfl, this.1, this.2.1, this.2.2⟩
theorem flatD_inv {ps : List (Int → Bool)} {j : Nat} {u : Value} (h : (flatD ps)[j]? = some u) : ∃ q, ps[j / 128]? = some q ∧ u = .bool (q ((j % 128 : Nat) : Int)) := by
  have hj : j < ps.length * 128 := by
    by_cases hj : j < ps.length * 128
    · exact hj
    · rw [List.getElem?_eq_none (by rw [flatD_len]; omega)] at h; cases h
  have hk : j / 128 < ps.length := by omega
  have h2 := flatD_at (List.getElem?_eq_getElem hk) (j := j % 128) (Nat.mod_lt _ (by omega))
  rw [show j / 128 * 128 + j % 128 = j by omega, h] at h2
  exact ⟨_, List.getElem?_eq_getElem hk, by simpa using h2⟩

/-- What a literal of one card comes to when it is laid open. -/
theorem fold_card {C : Array Value} (hC : C.size = 128) (Z : Array Value) (hZ : Z.size = 128) : Array.foldl (fun (cs : Array Value) (x : Value × Nat) => cs.setIfInBounds x.snd x.fst) Z C.zipIdx 0 128 = C := by
  have hf := Great.fill_whole (s := 128) (by omega) [Value.agg C] Z (by intro v hv; rw [List.mem_singleton.1 hv]; exact hC) (by simp [hZ])
  simp only [List.flatMap_cons, List.flatMap_nil, List.append_nil, Value.cells, Array.toArray_toList] at hf
  simpa [Instr.fill, Value.cells, hC, hZ] using hf

/-- What is appended: cards that lie somewhere, perhaps none. -/
def Crd (w : World) (u : Value) (qs : List (Int → Bool)) : Prop :=
  (u = .slice none 0 0 ∧ qs = []) ∨ ∃ g o c, u = .slice (some ⟨g, o, none⟩) qs.length c ∧ g < w.heap.size ∧ ∀ k q, qs[k]? = some q → ∀ j, j < 128 → w.cell? ⟨g, o + (k * 128 + j), none⟩ = some (.bool (q (j : Int)))
theorem Crd.below {w w' : World} {u : Value} {qs : List (Int → Bool)} {B : Nat} (h : Crd w u qs) (hb : Below B w w') (hB : w.heap.size ≤ B) : Crd w' u qs := by
  rcases h with h | ⟨g, o, c, hu, hg, hc⟩
  · exact .inl h
  · exact .inr ⟨g, o, c, hu, Nat.lt_of_lt_of_le hg hb.size, fun k q hq j hj => (hb.cell (p := ⟨g, o + (k * 128 + j), none⟩) (by show g < B; omega)).trans (hc k q hq j hj)⟩
theorem crd_one (w : World) (p : Int → Bool) : Crd (w.alloc (.cells (bA p) 82)) (.slice (some ⟨w.heap.size, 0, none⟩) 1 1) [p] := by
  refine .inr ⟨w.heap.size, 0, 1, rfl, by simp, fun k q hq j hj => ?_⟩
  obtain rfl : k = 0 := by
    by_cases e : k = 0
    · exact e
    · rw [List.getElem?_eq_none (by simp; omega)] at hq; cases hq
  simp only [List.getElem?_cons_zero, Option.some.injEq] at hq
  subst hq
  rw [Nat.zero_mul, Nat.zero_add, Nat.zero_add, cell_of_row _ _ _ _ _ _ (heap_alloc_new w _)]
  exact bA_at p hj

theorem wp_append_card {w : World} {o : Oper} {a : Act} {K : Act → World → Prop} {Q : Exit → Act → World → Prop} (s x : Operand)
    (ho : o.op = .call { callee := .builtin .append, args := #[s, x], argTypes := #[67, 67] })
    (B : Nat) (v : Value) (ps : List (Int → Bool)) (hs : a.eval s = v) (hr : Dk w B v ps) (u : Value) (qs : List (Int → Bool)) (hx : a.eval x = u) (hu : Crd w u qs) (hlen : ps.length + qs.length ≤ 1073741824) (hB : B ≤ w.heap.size)
    (h : ∀ v' w', Dk w' B v' (ps ++ qs) → w.grownBy w' v.ownBlock → K (a.put o.dst v') w') : o.wp Try.prog a w K Q := by
  obtain ⟨i0, hi, hz0, hz1, hz2⟩ := card_info
  rcases hu with ⟨rfl, rfl⟩ | ⟨g, off, c, rfl, hg, hc⟩
  · have hrun := run_append_owned_none (P := Try.prog) (w := w) B 67 o.type 82 i0 128 Try.underlying67 hi v ps.length _ hr
    unfold Oper.wp
    simp [execOp, ho, resolve, invoke, builtin, hs, hx, hrun, Result.andThen]
    exact h v w (by rw [List.append_nil]; exact hr) (grown_refl _ _)
  · obtain ⟨v', w', r, k2, k3, _⟩ := run_append_own (P := Try.prog) w B 67 o.type 82 i0 _ 128 128 Try.underlying67 hi hz0 hz1 hz2 Try.zcS (by decide) v ps.length _ hr ⟨g, off, none⟩ qs.length c (flatD qs) (flatD_len qs)
      (fun j y hy => by
        obtain ⟨q, hq, rfl⟩ := flatD_inv hy
        rw [addr_add]
        have := hc _ _ hq (j % 128) (Nat.mod_lt _ (by omega))
        rwa [show j / 128 * 128 + j % 128 = j by omega] at this)
      (flatD_one_cell qs) (by unfold maxLen; omega) (by omega) hB
    unfold Oper.wp execOp
    simp only [ho, resolve, invoke, builtin, Sem.run_bind, Sem.run_pure, Result.andThen_ok, List.map_toArray, List.map_cons, List.map_nil, hs, hx, r]
    exact h v' w' (by unfold Dk; rw [List.length_append, flatD_app]; exact k2) k3
theorem Dk.grown {w w' : World} {B : Nat} {v : Value} {ps : List (Int → Bool)} (h : Dk w B v ps) (hB : B ≤ w.heap.size) (hg : w.grownBy w' v.ownBlock) : Below B w w' :=
  (Below.refl B w).grown hg hB fun k hk => (World.ownsRow.lt h k hk).1
theorem Dk.form {w : World} {B : Nat} {v : Value} {ps : List (Int → Bool)} (h : Dk w B v ps) : ∃ p cap, v = .slice p ps.length cap := by
  obtain ⟨p, cap, e, _⟩ := h.dr; exact ⟨p, cap, e⟩
theorem Dk.alloc {w : World} {B : Nat} {v : Value} {ps : List (Int → Bool)} (h : Dk w B v ps) (o : Obj) : Dk (w.alloc o) B v ps := World.ownsRow.alloc h o
theorem Dk.abv {w w' : World} {B : Nat} {v : Value} {ps : List (Int → Bool)} (h : Dk w B v ps) (k : Abv B w w') : Dk w' B v ps := rowsZ_abv h k
end Go.Proofs.Ytgojlabkngnkdaa
