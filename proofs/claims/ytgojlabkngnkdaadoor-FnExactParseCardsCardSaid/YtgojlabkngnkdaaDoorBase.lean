/-
  The laws' own helpers, by their contracts: a slice is copied, two slices with the same numbers are found equal, a slice is marked and its marks are found again. Condition: slices of at most 2^40 numbers.
-/
import Derived.Test.YtgojlabkngnkdaaDoorProg
import Derived.WalkKit
import Derived.WalkLawsBesides
import Derived.WalkSpells
import Derived.WalkSmall
import Derived.Lib.Hide
import Derived.Deep.OwnRows
import Derived.Deep.QuietTactic
import Derived.BigQuiet
import Derived.OpenShut
namespace Go.Proofs.YtgojlabkngnkdaaDoor
open Go.RowKit

theorem Tryd.infoI : (Tryd.prog.info? 3).map (fun i => (i.zero, i.size, i.bytes)) = some (some (.int .i64 0), 1, 8) := by kernel_rfl

/-- v is a slice of the numbers xs in the memory w. -/
def Sv (w : World) (v : Value) (xs : List Int) : Prop :=
  ∃ p cap, v = .slice p xs.length cap ∧ (0 < xs.length → ∃ b off, p = some ⟨b, off, none⟩ ∧ b < w.heap.size ∧ ∀ j, j < xs.length → w.cell? ⟨b, off + j, none⟩ = some (.int .i64 (xs.getD j 0)))

theorem Sv.below {w w' : World} {v : Value} {xs : List Int} {B : Nat} (h : Sv w v xs) (hb : Below B w w') (hB : w.heap.size ≤ B) : Sv w' v xs := by
  obtain ⟨p, cap, hv, hx⟩ := h
  refine ⟨p, cap, hv, fun h0 => ?_⟩
  obtain ⟨b, off, hp, hlt, hc⟩ := hx h0
  exact ⟨b, off, hp, Nat.lt_of_lt_of_le hlt hb.size, fun j hj => (hb.cell (p := ⟨b, off + j, none⟩) (by show b < B; omega)).trans (hc j hj)⟩

/-- What the call owns: a slice of integers in blocks from B on, not frozen. -/
def Ow (w : World) (B : Nat) (v : Value) (ys : List Int) : Prop := w.ownsRow B 3 1 v ys.length (ys.map (Value.int .i64))

theorem Ow.below {w w' : World} {B C : Nat} {v : Value} {ys : List Int} (h : Ow w B v ys) (hb : Below C w w') (hC : w.heap.size ≤ C) : Ow w' B v ys := by
  obtain ⟨h1, h2⟩ := h
  refine ⟨h1, ?_⟩
  rcases h2 with h2 | ⟨g, cap, cur, hv, hg, hh, r⟩
  · exact .inl h2
  · refine .inr ⟨g, cap, cur, hv, hg, ?_, r⟩
    rw [hb.block g (Nat.lt_of_lt_of_le (Array.getElem?_eq_some_iff.1 hh).1 hC)]; exact hh

theorem Ow.mono {w : World} {B C : Nat} {v : Value} {ys : List Int} (h : Ow w B v ys) (hC : C ≤ B) : Ow w C v ys := by
  obtain ⟨h1, h2⟩ := h
  refine ⟨h1, ?_⟩
  rcases h2 with h2 | ⟨g, cap, cur, hv, hg, r⟩
  · exact .inl h2
  · exact .inr ⟨g, cap, cur, hv, Nat.le_trans hC hg, r⟩

theorem Ow.sv {w : World} {B : Nat} {v : Value} {ys : List Int} (h : Ow w B v ys) : Sv w v ys := by
  obtain ⟨_, h2⟩ := h
  rcases h2 with ⟨hv, hn⟩ | ⟨g, cap, cur, hv, hg, hh, hnc, hcm, hcs, htake⟩
  · exact ⟨none, 0, by rw [hv, hn], fun h0 => by omega⟩
  · refine ⟨some ⟨g, 0, none⟩, cap, hv, fun _ => ⟨g, 0, rfl, (Array.getElem?_eq_some_iff.1 hh).1, fun j hj => ?_⟩⟩
    have e : cur[j]? = (ys.map (Value.int .i64))[j]? := by
      rw [← htake, List.getElem?_take, if_pos (by omega)]; simp
    have e2 : (ys.map (Value.int .i64))[j]? = some (.int .i64 (ys.getD j 0)) := by
      rw [List.getElem?_map, List.getElem?_eq_getElem hj, List.getD_eq_getElem?_getD, List.getElem?_eq_getElem hj]; rfl
    simp only [World.cell?, hh, Nat.zero_add]
    rw [e, e2]; rfl

/-- A row whose cells are the numbers ys. -/
theorem ow_of_row {w : World} {b n : Nat} {f : Nat → Value} {ys : List Int} (h : w.rowIs b 3 n f) (hn : ys.length = n) (hm : n ≤ maxLen) (hf : ∀ j, j < n → f j = .int .i64 (ys.getD j 0)) : Ow w b (.slice (some ⟨b, 0, none⟩) n n) ys := by
  obtain ⟨c, hb, hcn, hc⟩ := h
  subst hn
  refine ⟨by simp, .inr ⟨b, ys.length, c, rfl, Nat.le_refl _, hb, Nat.le_refl _, hm, by omega, ?_⟩⟩
  apply List.ext_getElem?
  intro j
  by_cases hj : j < ys.length
  · rw [List.getElem?_take, if_pos (by omega), List.getElem?_map, List.getElem?_eq_getElem hj]
    have := hc j hj
    rw [hf j hj, List.getD_eq_getElem?_getD, List.getElem?_eq_getElem hj] at this
    simpa using this
  · rw [List.getElem?_take, if_neg (by omega), List.getElem?_eq_none (by simp; omega)]

/-- A slice that came in: of its row the first numbers. -/
theorem sv_of_cells {w : World} {x : Addr} {len cap : Nat} {zs : List Int} (hl : len ≤ cap) (hz : zs.length = cap) (hcell : ∀ i, i < zs.length → w.cell? (x.add i) = some (.int .i64 (zs.getD i 0))) :
    (zs.take len).length = len ∧ Sv w (.slice (some x) len cap) (zs.take len) := by
  have e : (zs.take len).length = len := by simp; omega
  refine ⟨e, some x, cap, by rw [e], fun h0 => ?_⟩
  obtain ⟨b, off, spot⟩ := x
  have hc := hcell 0 (by omega)
  have hspot : spot = none := by simpa [Addr.add] using World.cell?_spot hc
  subst hspot
  have hb : b < w.heap.size := by simpa [Addr.add] using World.block_lt_of_cell? _ _ hc
  refine ⟨b, off, rfl, hb, fun j hj => ?_⟩
  have h2 := hcell j (by omega)
  have e2 : (zs.take len).getD j 0 = zs.getD j 0 := by
    rw [List.getD_eq_getElem?_getD, List.getD_eq_getElem?_getD, List.getElem?_take, if_pos (by omega)]
  rw [e2, ← h2]
  by_cases e0 : j = 0
  · subst e0; simp [Addr.add]
  · simp [Addr.add, e0]
theorem sv_nil (w : World) : Sv w (.slice none 0 0) [] := ⟨none, 0, rfl, fun h => by simp at h⟩

/-- Two new blocks. -/
theorem blk_b (w : World) (o1 o2 : Obj) : ((w.alloc o1).alloc o2).heap[w.heap.size + 1]? = some o2 := by
  have h := heap_alloc_new (w.alloc o1) o2
  have e : (w.alloc o1).heap.size = w.heap.size + 1 := by simp
  rwa [e] at h
theorem blk_a (w : World) (o1 o2 : Obj) : ((w.alloc o1).alloc o2).heap[w.heap.size]? = some o1 :=
  (Below.heap_alloc (w.alloc o1) o2 _ (by simp)).trans (heap_alloc_new w o1)

/-- One call behind another. -/
theorem nxt {w w1 w2 : World} (h : Below w.heap.size w w1) (k : Below w1.heap.size w1 w2) : Below w.heap.size w w2 := h.trans (k.mono h.size)
/-- The row of a slice. -/
def OwnAt (u : Value) (b : Nat) : Prop := u.ownBlock = some b

set_option maxHeartbeats 1000000 in
set_option maxRecDepth 100000 in
theorem toIntS_any (v : Value) (xs : List Int) (w : World) (h : Sv w v xs) (hl : xs.length ≤ 1099511627776) :
    Calls Tryd.prog 55 #[v] w fun e w' => ∃ u, e = .returned u ∧ Ow w' w.heap.size u xs ∧ OwnAt u w.heap.size ∧ Below w.heap.size w w' := by
  obtain ⟨p, cap, rfl, hx⟩ := h
  have hmk := run_make_row' (P := Tryd.prog) 55 3 (.int .i64 0) 8 Tryd.underlying55 Tryd.infoI rfl .i64 .i64 xs.length (by omega) (by omega)
  go_enter Tryd.func55, Tryd.ntmps55
  go_wp2
  go_loopw [4] (fun i wr => ∃ k : Nat, k ≤ xs.length ∧ i = .int .i64 k ∧ wr.rowIs w.heap.size 3 xs.length (fun j => .int .i64 (if j < k then xs.getD j 0 else 0)) ∧ Below w.heap.size w wr) (fun i _ => xs.length - (intOf i).toNat)
  case atStart => exact ⟨0, Nat.zero_le _, rfl, (World.rowIs_made w _ _ _).congr (fun j _ => by simp), (Below.refl _ _).alloc (Nat.le_refl _) _⟩
  case round =>
    obtain ⟨k, hk, rfl, hrow, hb⟩ := hrel
    by_cases hlt : k < xs.length
    · obtain ⟨b, off, rfl, hbl, hc⟩ := hx (by omega)
      have hcell : wr.cell? ⟨b, off + k, none⟩ = some (.int .i64 (xs.getD k 0)) := (hb.cell (p := ⟨b, off + k, none⟩) hbl).trans (hc k hlt)
      have hold : wr.cell? ⟨w.heap.size, k, none⟩ = some (.int .i64 (if k < k then xs.getD k 0 else 0)) := hrow.cell hlt
      have hfr := hrow.frozen k
      clear hc hmk hx
      go_wp2
      go_roundw
      case rel =>
        refine ⟨k + 1, by omega, by go_num, (hrow.set k _).congr (fun j hj => ?_), hb.setCell (Nat.le_refl _) _⟩
        by_cases e : j = k
        · subst e; simp [List.getElem?_eq_getElem hj]
        · rw [if_neg e]
          by_cases h2 : j < k
          · rw [if_pos h2, if_pos (by omega)]
          · rw [if_neg h2, if_neg (by omega)]
      case measure => simp [intOf]; omega
    · have hkl : k = xs.length := by omega
      clear hmk hx
      go_wp2
      go_ret
      refine ⟨_, rfl, ow_of_row hrow rfl (by unfold maxLen; omega) (fun j hj => by rw [if_pos (by omega)]), rfl, hb⟩

set_option maxHeartbeats 1000000 in
theorem eqIntS_yes (v u : Value) (xs ys : List Int) (w : World) (hv : Sv w v xs) (hu : Sv w u ys) (hxy : xs = ys) (hl : xs.length ≤ 1099511627776) :
    Calls Tryd.prog 62 #[v, u] w fun e w' => e = .returned (.bool true) ∧ Below w.heap.size w w' := by
  subst hxy
  obtain ⟨p, cap, rfl, hx⟩ := hv
  obtain ⟨q, cap2, rfl, hy⟩ := hu
  go_enter Tryd.func62, Tryd.ntmps62
  go_wp2
  go_loopw [5] (fun i wr => ∃ k : Nat, k ≤ xs.length ∧ i = .int .i64 k ∧ Below w.heap.size w wr) (fun i _ => xs.length - (intOf i).toNat)
  case atStart => exact ⟨0, Nat.zero_le _, rfl, Below.refl _ _⟩
  case round =>
    obtain ⟨k, hk, rfl, hb⟩ := hrel
    by_cases hlt : k < xs.length
    · obtain ⟨b, off, rfl, hbl, hc⟩ := hx (by omega)
      obtain ⟨b2, off2, rfl, hbl2, hc2⟩ := hy (by omega)
      have h1 : wr.cell? ⟨b, off + k, none⟩ = some (.int .i64 (xs.getD k 0)) := (hb.cell (p := ⟨b, off + k, none⟩) hbl).trans (hc k hlt)
      have h2 : wr.cell? ⟨b2, off2 + k, none⟩ = some (.int .i64 (xs.getD k 0)) := (hb.cell (p := ⟨b2, off2 + k, none⟩) hbl2).trans (hc2 k hlt)
      have hi : (k : Int) < xs.length := by omega
      have hi0 : (0 : Int) ≤ k := by omega
      clear hc hc2 hx hy
      go_wp2
      go_quiet (fail)
      go_wp2
      go_roundw
      case rel => exact ⟨k + 1, by omega, by go_num, below_drewN hb _⟩
      case measure => simp [intOf]; omega
    · clear hx hy
      go_wp2
      go_ret
      exact ⟨rfl, hb⟩

/-- Marks: k, k + 1, .. -/
def marks (k : Int) (n : Nat) : List Int := (List.range n).map (fun (j : Nat) => k + (j : Int))
end Go.Proofs.YtgojlabkngnkdaaDoor
