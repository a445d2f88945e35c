/-
  The program's table of how amounts are paid, in memory, and words for the loop that fills it. No condition.
-/
import Derived.Test.YtdgadabfahmdmaaVor
import Derived.Test.YtdgadabfahmdmaaZbk
import Derived.OrdersIn
import Derived.OrdersHeld
import Derived.TacticsIn
import Derived.RangeFuncNested
import Derived.RangeFuncBound
import Derived.RangeFuncCalls
import Derived.Deep.RegionHeld3
namespace Go.Proofs.Ytdgadabfahmdmaa
open Go.RowKit

/-- A table of n entries in the block g. -/
def Tp (w : World) (g n : Nat) (F : Nat → Pd) : Prop :=
  ∃ c : Array Value, w.heap[g]? = some (.cells c 51 (0, 0)) ∧ c.size = n * 3 ∧
    ∀ j, j < n → c[j * 3]? = some (.int .i64 ((F j).w : Int)) ∧ c[j * 3 + 1]? = some (.int .i64 ((F j).f : Int)) ∧ c[j * 3 + 2]? = some (.int .i64 ((F j).k : Int))
theorem Tp.below {w w' : World} {g n D : Nat} {F : Nat → Pd} (h : Tp w g n F) (hb : Below D w w') (hD : w.heap.size ≤ D) : Tp w' g n F := by
  obtain ⟨c, hg, r⟩ := h
  exact ⟨c, (hb.block g (Nat.lt_of_lt_of_le (Array.getElem?_eq_some_iff.1 hg).1 hD)).trans hg, r⟩
theorem Tp.lt {w : World} {g n : Nat} {F : Nat → Pd} (h : Tp w g n F) : g < w.heap.size := by
  obtain ⟨c, hg, _⟩ := h
  exact (Array.getElem?_eq_some_iff.1 hg).1
theorem Tp.congr {w : World} {g n : Nat} {F G : Nat → Pd} (h : Tp w g n F) (e : ∀ j, j < n → F j = G j) : Tp w g n G := by
  obtain ⟨c, hg, hs, hc⟩ := h
  refine ⟨c, hg, hs, fun j hj => ?_⟩
  rw [← e j hj]
  exact hc j hj
theorem Tp.cells {w : World} {g n : Nat} {F : Nat → Pd} (h : Tp w g n F) {j : Nat} (hj : j < n) :
    w.cell? ⟨g, j * 3, none⟩ = some (.int .i64 ((F j).w : Int)) ∧ w.cell? ⟨g, j * 3 + 1, none⟩ = some (.int .i64 ((F j).f : Int)) ∧ w.cell? ⟨g, j * 3 + 2, none⟩ = some (.int .i64 ((F j).k : Int)) ∧
    w.frozen? ⟨g, j * 3, none⟩ = false ∧ w.frozen? ⟨g, j * 3 + 1, none⟩ = false ∧ w.frozen? ⟨g, j * 3 + 2, none⟩ = false := by
  obtain ⟨c, hg, hs, hc⟩ := h
  have := hc j hj
  refine ⟨?_, ?_, ?_, ?_, ?_, ?_⟩ <;> simp [World.cell?, World.frozen?, hg, this]
theorem Tp.set {w : World} {g n j : Nat} {F : Nat → Pd} (h : Tp w g n F) (P : Pd) :
    Tp (((w.setCell ⟨g, j * 3, none⟩ (.int .i64 (P.w : Int))).setCell ⟨g, j * 3 + 1, none⟩ (.int .i64 (P.f : Int))).setCell ⟨g, j * 3 + 2, none⟩ (.int .i64 (P.k : Int))) g n (fun i => if i = j then P else F i) := by
  obtain ⟨cs, hg, hs, hc⟩ := h
  refine ⟨((cs.setIfInBounds (j * 3) (.int .i64 (P.w : Int))).setIfInBounds (j * 3 + 1) (.int .i64 (P.f : Int))).setIfInBounds (j * 3 + 2) (.int .i64 (P.k : Int)), ?_, by simpa using hs, fun i hi => ?_⟩
  · simp [World.setCell, Array.getElem?_modify, hg]
  · by_cases e : i = j
    · subst e
      have h0 : i * 3 < cs.size := by omega
      have h1 : i * 3 + 1 < cs.size := by omega
      have h2 : i * 3 + 2 < cs.size := by omega
      simp [h0, h1, h2]
    · have hh := hc i hi
      have n1 : ¬ j * 3 + 2 = i * 3 := by omega
      have n2 : ¬ j * 3 + 1 = i * 3 := by omega
      have n3 : ¬ j * 3 = i * 3 := by omega
      have n4 : ¬ j * 3 + 2 = i * 3 + 1 := by omega
      have n5 : ¬ j * 3 + 1 = i * 3 + 1 := by omega
      have n6 : ¬ j * 3 = i * 3 + 1 := by omega
      have n7 : ¬ j * 3 + 2 = i * 3 + 2 := by omega
      have n8 : ¬ j * 3 + 1 = i * 3 + 2 := by omega
      have n9 : ¬ j * 3 = i * 3 + 2 := by omega
      simp only [if_neg e, Array.getElem?_setIfInBounds]
      rw [if_neg n1, if_neg n2, if_neg n3, if_neg n4, if_neg n5, if_neg n6, if_neg n7, if_neg n8, if_neg n9]
      exact hh
theorem made3_zero (n i : Nat) (hi : i < n * 3) : (madeCells #[Value.int .i64 0, .int .i64 0, .int .i64 0] (n * 3))[i]? = some (.int .i64 0) := by
  have h : i % 3 = 0 ∨ i % 3 = 1 ∨ i % 3 = 2 := by omega
  rcases h with h | h | h <;> simp [madeCells, hi, h]
theorem Try.infoP : (Try.prog.info? 51).map (fun i => (i.zero, i.size, i.bytes)) = some (some (.agg #[.int .i64 0, .int .i64 0, .int .i64 0]), 3, 24) := by kernel_rfl
/-- The table as it begins. -/
theorem tp_start (w : World) (n : Nat) (hn : 1 ≤ n) :
    Tp (w.alloc (.cells (((madeCells #[Value.int .i64 0, .int .i64 0, .int .i64 0] (n * 3)).setIfInBounds 0 (.int .i64 1)).setIfInBounds 1 (.int .i64 0) |>.setIfInBounds 2 (.int .i64 0)) 51)) w.heap.size n pd0 := by
  refine ⟨_, heap_alloc_new w _, by simp [size_madeCells], fun j hj => ?_⟩
  have z0 := made3_zero n (j * 3) (by omega)
  have z1 := made3_zero n (j * 3 + 1) (by omega)
  have z2 := made3_zero n (j * 3 + 2) (by omega)
  have hsz : (madeCells #[Value.int .i64 0, .int .i64 0, .int .i64 0] (n * 3)).size = n * 3 := size_madeCells _ _
  by_cases e : j = 0
  · subst e
    have h0 : 0 < n * 3 := by omega
    have h1 : 1 < n * 3 := by omega
    have h2 : 2 < n * 3 := by omega
    simp [hsz, h0, h1, h2, pd0]
  · simp only [Array.getElem?_setIfInBounds]
    rw [if_neg (by omega), if_neg (by omega), if_neg (by omega), if_neg (by omega), if_neg (by omega), if_neg (by omega), if_neg (by omega), if_neg (by omega), if_neg (by omega), z0, z1, z2]
    simp [pd0, e, Pd.z]

theorem rows_wide {n : Nat} {P : Program} {row : String} {args : Array Value} {w : World} {R : Value → World → Prop} (h : Rows P row args w R) : RowsIn Fence.wide n P row args w R :=
  fun c cs _ => let ⟨v, w', r, s⟩ := h c cs; ⟨v, w', r, stepsIn_wide.2 s⟩
theorem oper_wide {l n : Nat} {P : Program} {o : Oper} {a : Act} {w : World} {K : Act → World → Prop} {Q : Exit → Act → World → Prop} (hd : ∀ c, o.op ≠ .defer c) (h : o.wp P a w K Q) :
    o.wpIn (Fence.wide.inRound l) n P a w K Q := by
  refine ⟨fun _ _ => trivial, ?_⟩
  rw [show o.semAt (Fence.wide.inRound l).round a.eval = execOp a.eval o from Oper.semAt_some l _ _ hd]
  unfold Oper.wp at h
  cases hr : (execOp a.eval o).run P w with
  | ok nx w' =>
    rw [hr] at h
    cases nx <;> simp only [Oper.upon] at h <;> simp only [Oper.uponIn] <;> first | exact h | exact ⟨fun e => (by cases e), callsIn_wide.2 h⟩ | exact ⟨fun e => (by cases e), rows_wide h⟩
  | halt x w' =>
    rw [hr] at h
    cases x <;> simp only [Oper.upon] at h
    exact h
theorem any_wide {l n : Nat} {P : Program} {md : Region.Mode} {ops : Array Oper} {Q : Exit → Act → World → Prop} (hL : ¬ LetsOut Q) (hd : ∀ (i : Nat) (o : Oper) c, ops[i]? = some o → o.op ≠ .defer c) :
    ∀ (fuel : Nat) (listed : Array Bool) (a : Act) (w : World), wpAny P md ops Q fuel listed a w → wpAnyIn (Fence.wide.inRound l) n P md ops Q fuel listed a w := by
  intro fuel
  induction fuel with
  | zero => intro listed a w h; exact h
  | succ fuel ih =>
    intro listed a w h
    refine ⟨h.1, fun i hi => ?_⟩
    have h2 := h.2 i hi
    unfold wpOp at h2
    unfold wpOpIn
    cases ho : ops[i]? with
    | none => rw [ho] at h2; exact ih _ _ _ h2
    | some o =>
      rw [ho] at h2
      simp only at h2 ⊢
      split
      · rename_i hw
        rw [if_pos hw] at h2
        rcases h2 with h2 | h2
        · exact oper_wide (fun c => hd i o c ho) (Oper.wp_mono (fun a w => ih _ a w) h2)
        · exact absurd h2.2 hL
      · rename_i hw
        rw [if_neg hw] at h2
        exact ⟨fun _ _ => trivial, ih _ _ _ h2⟩
theorem region_wide {l n id : Nat} {P : Program} {ops : Array Oper} {Q : Exit → Act → World → Prop} {S : World → Prop} {a : Act} {w : World} (hL : ¬ LetsOut Q) (hm : P.follows .mixedOrders = true) (hd : ∀ (i : Nat) (o : Oper) c, ops[i]? = some o → o.op ≠ .defer c)
    (h : wpAnyH P .any ops Q S ops.size (Array.replicate ops.size false) a w.drew) : (Code.region id ops true).wpIn (Fence.wide.inRound l) n P Q a w :=
  wpIn_region_any hm (any_wide hL hd _ _ _ _ (wpAny_of_held _ _ _ _ h))

theorem kpB_b {n₀ Bs : Nat} {w : World} (hn : n₀ ≤ w.heap.size) (hB : Bs < w.heap.size) (W : World) (l : Nat) (o o' : Obj) (hl : w.heap.size ≤ l) (h : W.heap[l]? = some o) (h1 : o.isCells = false) (h2 : o.isWalk = false) : KpB n₀ Bs W (W.putObj l o') :=
  ⟨belowK_b hn W l o o' hl h h1 h2, (grownBy_putObj' W l o').block Bs (by have := (Array.getElem?_eq_some_iff.1 h).1; omega) (fun e => by have := Option.some.inj e; omega)⟩
theorem kf_below {B : Nat} {W W' : World} (h : Below W.heap.size W W') : KeepsFrom B W W' := ⟨h.size, fun k _ _ hk _ => (h.block k (Array.getElem?_eq_some_iff.1 hk).1).trans hk⟩
theorem Boxed.below {W W' : World} {g : Nat} {t : TypeId} {v : Value} (h : Boxed W g t v) (k : Below W.heap.size W W') : Boxed W' g t v := (k.block g h.lt).trans h
theorem blk_other (w : World) (a : Addr) (v : Value) {g : Nat} (h : g ≠ a.block) : (w.setCell a v).heap[g]? = w.heap[g]? := by simp [World.setCell, Array.getElem?_modify, Ne.symm h]
/-- Three cells stored in the block g: all other blocks are as they were. -/
theorem set3_other (w : World) (g i j k : Nat) (x y z : Value) {h : Nat} (hg : h ≠ g) : (((w.setCell ⟨g, i, none⟩ x).setCell ⟨g, j, none⟩ y).setCell ⟨g, k, none⟩ z).heap[h]? = w.heap[h]? := by
  rw [blk_other _ _ _ hg, blk_other _ _ _ hg, blk_other _ _ _ hg]
theorem set3_below {w0 w : World} {B g : Nat} (h : Below B w0 w) (hg : B ≤ g) (i j k : Nat) (x y z : Value) : Below B w0 (((w.setCell ⟨g, i, none⟩ x).setCell ⟨g, j, none⟩ y).setCell ⟨g, k, none⟩ z) :=
  ((h.setCell (p := ⟨g, i, none⟩) hg _).setCell (p := ⟨g, j, none⟩) hg _).setCell (p := ⟨g, k, none⟩) hg _
theorem set3_cell (w : World) (g i j k n : Nat) (x y z : Value) {u : Value} (h1 : n ≠ i) (h2 : n ≠ j) (h3 : n ≠ k) (h : w.cell? ⟨g, n, none⟩ = some u) : (((w.setCell ⟨g, i, none⟩ x).setCell ⟨g, j, none⟩ y).setCell ⟨g, k, none⟩ z).cell? ⟨g, n, none⟩ = some u := by
  rw [World.cell?_setCell_other _ _ _ _ (by intro e; simp only [Addr.mk.injEq] at e; omega), World.cell?_setCell_other _ _ _ _ (by intro e; simp only [Addr.mk.injEq] at e; omega), World.cell?_setCell_other _ _ _ _ (by intro e; simp only [Addr.mk.injEq] at e; omega)]; exact h
theorem set3_keeps (w : World) (B g i j k : Nat) (x y z : Value) : KeepsFrom B w (((w.setCell ⟨g, i, none⟩ x).setCell ⟨g, j, none⟩ y).setCell ⟨g, k, none⟩ z) :=
  (((KeepsOthers.setCell _ _ _).from _).trans ((KeepsOthers.setCell _ _ _).from _)).trans ((KeepsOthers.setCell _ _ _).from _)
end Go.Proofs.Ytdgadabfahmdmaa
