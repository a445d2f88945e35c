/-
  Slices of slices of the call's own, each row in a block of its own: what they hold, appended to, marked and found again. Conditions: at most 2^20 rows.
-/
import Derived.Test.YtgojlabkngnkdaaDoorCat
import Derived.Test.YtgojlabkngnkdaaDoorPsl4
namespace Go.Proofs.YtgojlabkngnkdaaDoor
open Go.RowKit

theorem row1_below {w w' : World} {B C n : Nat} {t : TypeId} {v : Value} {xs : List Value} (h : w.ownsRow B t 1 v n xs) (hb : Below C w w') (hC : w.heap.size ≤ C) : w'.ownsRow B t 1 v n xs := by
  obtain ⟨h1, h2⟩ := h
  refine ⟨h1, ?_⟩
  rcases h2 with h2 | ⟨g, cap, cur, hv, hg, hh, r⟩
  · exact .inl h2
  · refine .inr ⟨g, cap, cur, hv, hg, ?_, r⟩
    rw [hb.block g (Nat.lt_of_lt_of_le (Array.getElem?_eq_some_iff.1 hh).1 hC)]; exact hh
theorem row1_mono {w : World} {B C n : Nat} {t : TypeId} {v : Value} {xs : List Value} (h : w.ownsRow B t 1 v n xs) (hC : C ≤ B) : w.ownsRow C t 1 v n xs := by
  obtain ⟨h1, h2⟩ := h
  refine ⟨h1, ?_⟩
  rcases h2 with h2 | ⟨g, cap, cur, hv, hg, r⟩
  · exact .inl h2
  · exact .inr ⟨g, cap, cur, hv, by omega, r⟩
theorem row1_below' {w w' : World} {B n : Nat} {t : TypeId} {v : Value} {xs : List Value} (h : w.ownsRow B t 1 v n xs) (hb : ∀ k, v.ownBlock = some k → w'.heap[k]? = w.heap[k]?) : w'.ownsRow B t 1 v n xs := by
  obtain ⟨h1, h2⟩ := h
  refine ⟨h1, ?_⟩
  rcases h2 with h2 | ⟨g, cap, cur, hv, hg, hh, r⟩
  · exact .inl h2
  · refine .inr ⟨g, cap, cur, hv, hg, ?_, r⟩
    rw [hb g (by rw [hv]; rfl)]; exact hh

/-- The call's own slice of slices: its rows lie in blocks of their own, below D. -/
structure RowsAt (w : World) (B D : Nat) (v : Value) (vals : List Value) (pl : List (List Int)) : Prop where
  out : w.ownsRow B 55 1 v pl.length vals
  row : ∀ j, j < pl.length → Ow w B (vals.getD j undef) (rowL pl j)
  sep : ∀ i j, i < j → j < pl.length → (vals.getD i undef).ownBlock = none ∨ (vals.getD i undef).ownBlock ≠ (vals.getD j undef).ownBlock
  low : ∀ j k, j < pl.length → (vals.getD j undef).ownBlock = some k → k < D
def Owa (w : World) (B D : Nat) (v : Value) (pl : List (List Int)) : Prop := ∃ vals, RowsAt w B D v vals pl
theorem Owa.nil (w : World) (B D : Nat) : Owa w B D (.slice none 0 0) [] := ⟨[], World.ownsRow_nil _ _ _ _, fun j h => by simp at h, fun i j _ h => by simp at h, fun j k h => by simp at h⟩
theorem RowsAt.below {w w' : World} {B C D : Nat} {v : Value} {vals : List Value} {pl : List (List Int)} (h : RowsAt w B D v vals pl) (hb : Below C w w') (hC : w.heap.size ≤ C) : RowsAt w' B D v vals pl :=
  ⟨row1_below h.out hb hC, fun j hj => (h.row j hj).below hb hC, h.sep, h.low⟩
theorem Owa.below {w w' : World} {B C D : Nat} {v : Value} {pl : List (List Int)} (h : Owa w B D v pl) (hb : Below C w w') (hC : w.heap.size ≤ C) : Owa w' B D v pl := by
  obtain ⟨vals, h⟩ := h; exact ⟨vals, h.below hb hC⟩
theorem Owa.mono {w : World} {B C D E : Nat} {v : Value} {pl : List (List Int)} (h : Owa w B D v pl) (hC : C ≤ B) (hE : D ≤ E) : Owa w C E v pl := by
  obtain ⟨vals, h⟩ := h
  exact ⟨vals, row1_mono h.out hC, fun j hj => (h.row j hj).mono hC, h.sep, fun j k hj hk => Nat.lt_of_lt_of_le (h.low j k hj hk) hE⟩
theorem rowvals {w : World} {B n : Nat} {v : Value} {vals : List Value} (h : w.ownsRow B 55 1 v n vals) {g cap : Nat} (hv : v = .slice (some ⟨g, 0, none⟩) n cap) {j : Nat} (hj : j < n) : w.cell? ⟨g, 0 + j, none⟩ = some (vals.getD j undef) := by
  subst hv
  have hl : vals.length = n := by have := h.1; omega
  rw [Nat.zero_add, World.ownsRow.cellAt h j (by omega), List.getD_eq_getElem?_getD, List.getElem?_eq_getElem (by omega)]
  rfl
theorem Owa.svv {w : World} {B D : Nat} {v : Value} {pl : List (List Int)} (h : Owa w B D v pl) : Svv w v pl := by
  obtain ⟨vals, h⟩ := h
  rcases id h.out.2 with ⟨e, hn⟩ | ⟨g, cap, cur, e, hg, hh, _⟩
  · exact ⟨none, 0, by rw [e, hn], fun h0 => by omega⟩
  · exact ⟨some ⟨g, 0, none⟩, cap, e, fun _ => ⟨g, 0, rfl, (Array.getElem?_eq_some_iff.1 hh).1, fun j hj => ⟨vals.getD j undef, rowvals h.out e hj, (h.row j hj).sv⟩⟩⟩
theorem Owa.form {w : World} {B D : Nat} {v : Value} {pl : List (List Int)} (h : Owa w B D v pl) : ∃ p cap, v = .slice p pl.length cap := by
  obtain ⟨p, cap, e, _⟩ := h.svv
  exact ⟨p, cap, e⟩
theorem Ow.one {w : World} {B : Nat} {v : Value} {ys : List Int} (h : Ow w B v ys) : v.oneCell' = true := by
  rcases h.form with ⟨e, _⟩ | ⟨g, cap, e, _⟩ <;> rw [e] <;> rfl

def Abv (B : Nat) (w w' : World) : Prop := ∀ i, B ≤ i → w'.heap[i]? = w.heap[i]?
theorem Abv.refl (B : Nat) (w : World) : Abv B w w := fun _ _ => rfl
theorem Abv.setCell {B : Nat} {w w' : World} (h : Abv B w w') {g : Nat} (hg : g < B) (j : Nat) (u : Value) : Abv B w (w'.setCell ⟨g, j, none⟩ u) := fun i hi => by
  rw [heap_setCell_other _ _ _ _ (by show i ≠ g; omega)]; exact h i hi
theorem rowsZ_abv {w w' : World} {B n z : Nat} {t : TypeId} {v : Value} {xs : List Value} (h : w.ownsRow B t z v n xs) (k : Abv B w w') : w'.ownsRow B t z v n xs := by
  obtain ⟨h1, h2⟩ := h
  refine ⟨h1, ?_⟩
  rcases h2 with h2 | ⟨g, cap, cur, hv, hg, hh, r⟩
  · exact .inl h2
  · exact .inr ⟨g, cap, cur, hv, hg, by rw [k g hg]; exact hh, r⟩
theorem Ow.abv {w w' : World} {B : Nat} {v : Value} {ys : List Int} (h : Ow w B v ys) (k : Abv B w w') : Ow w' B v ys := rowsZ_abv h k
theorem Owa.abv {w w' : World} {B D : Nat} {v : Value} {pl : List (List Int)} (h : Owa w B D v pl) (k : Abv B w w') : Owa w' B D v pl := by
  obtain ⟨vals, h⟩ := h
  exact ⟨vals, rowsZ_abv h.out k, fun j hj => (h.row j hj).abv k, h.sep, h.low⟩
/-- The cells of a block of two. -/
theorem cells2_of {w : World} {b : Nat} {x y : Value} {t : TypeId} (h : w.heap[b]? = some (.cells #[x, y] t (0, 0))) :
    w.cell? ⟨b, 0, none⟩ = some x ∧ w.cell? ⟨b, 1, none⟩ = some y ∧ w.frozen? ⟨b, 0, none⟩ = false ∧ w.frozen? ⟨b, 1, none⟩ = false :=
  ⟨by rw [cell_of_row _ _ _ _ _ _ h]; rfl, by rw [cell_of_row _ _ _ _ _ _ h]; rfl, frozen_of_row _ _ _ _ _ h, frozen_of_row _ _ _ _ _ h⟩
theorem blk_1 (w : World) (a b c : Obj) : (((w.alloc a).alloc b).alloc c).heap[w.heap.size + 1]? = some b := by
  rw [heap_alloc_old _ _ (by simp)]; exact blk_b w a b
theorem blk_2 (w : World) (a b c : Obj) : (((w.alloc a).alloc b).alloc c).heap[w.heap.size + 1 + 1]? = some c := by
  have := blk_b (w.alloc a) b c
  rwa [World.size_alloc] at this
theorem addr_add (g o j : Nat) : (⟨g, o, none⟩ : Addr).add j = ⟨g, o + j, none⟩ := by unfold Addr.add; split <;> simp_all
theorem run_loadVar_part {P : Program} (w : World) (g o : Nat) (ty : TypeId) (cs : Array Value) (d : TypeDesc) (hc : ∀ j v, cs[j]? = some v → w.cell? ⟨g, o + j, none⟩ = some v)
    (hu : P.underlying ty = some d) (hd : (match d with | .struct _ | .array _ _ => true | _ => false) = true) (hi : (P.info? ty).map (·.size) = some cs.size) :
    (loadVar ty ⟨g, o, none⟩).run P w = .ok (.agg cs) w := by
  have hl : (loadCells ⟨g, o, none⟩ cs.toList.length).run P w = .ok cs.toList.toArray w :=
    run_loadCells_list (P := P) w ⟨g, o, none⟩ cs.toList (fun j v hv => by
      rw [addr_add]
      exact hc j v (by simpa using hv))
  cases hq : P.info? ty with
  | none => simp [hq] at hi
  | some i =>
    have hs : i.size = cs.size := by simpa [hq] using hi
    have hagg : (isAgg ty).run P w = .ok true w := by
      unfold isAgg
      rw [Sem.run_bind, run_underlying hu w]
      cases d <;> simp_all
    simp only [Array.length_toList, Array.toArray_toList] at hl
    simp [loadVar, Sem.run_bind, hagg, sizeOf, typeInfo, hq, hs, hl]
/-- A result of two cells. -/
theorem results_two {P : Program} {fn : Func} {p : Tmp} {ty : TypeId} (h : fn.results = #[.cell p ty]) (tmps : Array Value) (w : World) (g : Nat) (x y : Value) (fs : Array Field)
    (hp : tmps.getD p undef = .pointer (some ⟨g, 0, none⟩)) (c0 : w.cell? ⟨g, 0, none⟩ = some x) (c1 : w.cell? ⟨g, 1, none⟩ = some y)
    (hu : P.underlying ty = some (.struct fs)) (hi : (P.info? ty).map (·.size) = some 2) :
    (results fn tmps).run P w = .ok (.agg #[x, y]) w := by
  have hp' : tmps[p]?.getD undef = .pointer (some ⟨g, 0, none⟩) := by simpa using hp
  have hl := run_loadVar_part (P := P) w g 0 ty #[x, y] (.struct fs) (fun j v hv => by
    match j, hv with
    | 0, hv => simp at hv; subst hv; simpa using c0
    | 1, hv => simp at hv; subst hv; simpa using c1) hu rfl (by simpa using hi)
  simp [results, h, hp', asAddr, hl]
theorem Abv.up {B C : Nat} {w w' : World} (h : Abv B w w') (hC : B ≤ C) : Abv C w w' := fun i hi => h i (by omega)
theorem Oww.abv {w w' : World} {B D : Nat} {v : Value} {pl : List (List Int)} (h : Oww w B D v pl) (k : Abv B w w') : Oww w' B D v pl := by
  obtain ⟨g, U, bs, hv, hg, hr, h2, ho⟩ := h
  refine ⟨g, U, bs, hv, hg, hr.of_block (k g hg), ⟨fun j h0 hj => ?_, h2.pos, h2.inc⟩, fun j hj => (ho j hj).abv (k.up (by have := h2.pos j hj; omega))⟩
  obtain ⟨ys, e, o, a⟩ := h2.own j h0 hj
  exact ⟨ys, e, o.abv (k.up (by have := h2.pos j hj; omega)), a⟩
theorem Oww.lower {w : World} {B C D E : Nat} {v : Value} {pl : List (List Int)} (h : Oww w B D v pl) (hC : C ≤ B) (hE : D ≤ E) : Oww w C E v pl := by
  obtain ⟨g, U, bs, hv, hg, hr, h2, ho⟩ := h
  exact ⟨g, U, bs, hv, Nat.le_trans hC hg, hr, ⟨h2.own, fun j hj => ⟨(h2.pos j hj).1, Nat.lt_of_lt_of_le (h2.pos j hj).2 hE⟩, h2.inc⟩, ho⟩
theorem Owa.mid {w w' : World} {B D C E : Nat} {v : Value} {pl : List (List Int)} (h : Owa w B D v pl) (m : Mid C E w w') (hE : E ≤ B) : Owa w' B D v pl := by
  obtain ⟨vals, h⟩ := h
  refine ⟨vals, ?_, fun j hj => (h.row j hj).mid m (fun g hg => .inr (by have := (World.ownsRow.lt (h.row j hj) g hg).1; omega)), h.sep, h.low⟩
  exact row1_below' h.out (fun q hq => m.block q (World.ownsRow.lt h.out q hq).2 (.inr (by have := (World.ownsRow.lt h.out q hq).1; omega)))
theorem Ow.midO {w w' : World} {B C E : Nat} {v : Value} {ys : List Int} (h : Ow w B v ys) (m : Mid C E w w') (hE : E ≤ B) : Ow w' B v ys :=
  h.mid m fun g hg => .inr (by have := (World.ownsRow.lt h g hg).1; omega)
theorem Mid.cell {C D : Nat} {w w' : World} (m : Mid C D w w') {g j : Nat} (hg : g < w.heap.size) (hn : g < C ∨ D ≤ g) : w'.cell? ⟨g, j, none⟩ = w.cell? ⟨g, j, none⟩ := by
  simp only [World.cell?, m.block g hg hn]
end Go.Proofs.YtgojlabkngnkdaaDoor
