/-
  The program's arrays of 61: sets of lengths and pairs of marks, as whole values and in memory. No condition.
-/
import Derived.Test.YthienikceehcoaaUpu
import Derived.Deep.WholeRow
namespace Go.Proofs.Ythienikceehcoaa
open Go.RowKit

theorem Try.setU : Try.prog.underlying 33 = some (.array 61 4) := by kernel_rfl
theorem Try.setI : (Try.prog.info? 33).map (·.size) = some 61 := by kernel_rfl
theorem Try.prsU : Try.prog.underlying 40 = some (.array 61 3) := by kernel_rfl
theorem Try.prsI : (Try.prog.info? 40).map (·.size) = some 61 := by kernel_rfl

def arG (f : Nat → Value) : Array Value := ((List.range 61).map f).toArray
theorem arG_size (f : Nat → Value) : (arG f).size = 61 := by simp [arG]
theorem arG_at (f : Nat → Value) {j : Nat} (h : j < 61) : (arG f)[j]? = some (f j) := by simp [arG, h]
theorem arG_out (f : Nat → Value) {j : Nat} (h : ¬ j < 61) : (arG f)[j]? = none := by
  rw [Array.getElem?_eq_none]; rw [arG_size]; omega
theorem arG_of {c : Array Value} {f : Nat → Value} (h : c.size = 61) (g : ∀ j, j < 61 → c[j]? = some (f j)) : c = arG f := by
  apply Array.ext_getElem?
  intro j
  by_cases hj : j < 61
  · rw [g j hj, arG_at f hj]
  · rw [arG_out f hj, Array.getElem?_eq_none (by omega)]
theorem arG_congr {f g : Nat → Value} (h : ∀ j, j < 61 → f j = g j) : arG f = arG g :=
  arG_of (arG_size f) fun j hj => by rw [arG_at f hj, h j hj]
theorem arG_one {f : Nat → Value} (h : ∀ j, (f j).oneCell' = true) : (arG f).all (·.oneCell') = true := by
  rw [Array.all_eq_true_iff_forall_mem]
  intro x hx
  simp only [arG, List.mem_toArray, List.mem_map] at hx
  obtain ⟨j, _, rfl⟩ := hx
  exact h j
theorem arG_row {w : World} {b : Nat} {t : TypeId} {f : Nat → Value} (h : w.rowIs b t 61 f) : w.heap[b]? = some (.cells (arG f) t (0, 0)) := by
  obtain ⟨c, hb, hn, hc⟩ := h
  rw [← arG_of hn hc]; exact hb
theorem row_arG {w : World} {b : Nat} {t : TypeId} {f : Nat → Value} (h : w.heap[b]? = some (.cells (arG f) t (0, 0))) : w.rowIs b t 61 f :=
  ⟨arG f, h, arG_size f, fun _ hj => arG_at f hj⟩
/-- A set, and a table of numbers, as values. -/
def bA (p : Int → Bool) : Array Value := arG fun j => .bool (p (j : Int))
def iA (p : Int → Int) : Array Value := arG fun j => .int .i64 (p (j : Int))
theorem bA_one (p : Int → Bool) : (bA p).all (·.oneCell') = true := arG_one fun _ => rfl
theorem iA_one (p : Int → Int) : (iA p).all (·.oneCell') = true := arG_one fun _ => rfl
theorem bA_size (p : Int → Bool) : (bA p).size = 61 := arG_size _
theorem iA_size (p : Int → Int) : (iA p).size = 61 := arG_size _
def noB : Array Value := bA fun _ => false
def noI : Array Value := iA fun _ => 0
/-- The same, cell by cell. -/
def litB : Array Value := #[.bool false, .bool false, .bool false, .bool false, .bool false, .bool false, .bool false, .bool false, .bool false, .bool false, .bool false, .bool false, .bool false, .bool false, .bool false, .bool false, .bool false, .bool false, .bool false, .bool false, .bool false, .bool false, .bool false, .bool false, .bool false, .bool false, .bool false, .bool false, .bool false, .bool false, .bool false, .bool false, .bool false, .bool false, .bool false, .bool false, .bool false, .bool false, .bool false, .bool false, .bool false, .bool false, .bool false, .bool false, .bool false, .bool false, .bool false, .bool false, .bool false, .bool false, .bool false, .bool false, .bool false, .bool false, .bool false, .bool false, .bool false, .bool false, .bool false, .bool false, .bool false]
def litI : Array Value := #[.int .i64 0, .int .i64 0, .int .i64 0, .int .i64 0, .int .i64 0, .int .i64 0, .int .i64 0, .int .i64 0, .int .i64 0, .int .i64 0, .int .i64 0, .int .i64 0, .int .i64 0, .int .i64 0, .int .i64 0, .int .i64 0, .int .i64 0, .int .i64 0, .int .i64 0, .int .i64 0, .int .i64 0, .int .i64 0, .int .i64 0, .int .i64 0, .int .i64 0, .int .i64 0, .int .i64 0, .int .i64 0, .int .i64 0, .int .i64 0, .int .i64 0, .int .i64 0, .int .i64 0, .int .i64 0, .int .i64 0, .int .i64 0, .int .i64 0, .int .i64 0, .int .i64 0, .int .i64 0, .int .i64 0, .int .i64 0, .int .i64 0, .int .i64 0, .int .i64 0, .int .i64 0, .int .i64 0, .int .i64 0, .int .i64 0, .int .i64 0, .int .i64 0, .int .i64 0, .int .i64 0, .int .i64 0, .int .i64 0, .int .i64 0, .int .i64 0, .int .i64 0, .int .i64 0, .int .i64 0, .int .i64 0]
theorem litB_eq : litB = noB := by kernel_rfl
theorem litI_eq : litI = noI := by kernel_rfl
theorem set_same (w : World) (o : Obj) (c : Array Value) (t : TypeId) : ((w.alloc o).alloc (.cells c t)).setRow (w.heap.size + 1) c = (w.alloc o).alloc (.cells c t) := by
  have h := World.setRow_alloc_new (w.alloc o) c c t
  rwa [World.size_alloc] at h
theorem below_setRow {B : Nat} {w w1 : World} (h : Below B w w1) {g : Nat} (hg : B ≤ g) (C : Array Value) : Below B w (w1.setRow g C) :=
  ⟨h.os, h.tape, h.output, by rw [setRow_size]; exact h.size, fun k hk => by rw [setRow_other _ _ _ _ (by omega)]; exact h.block k hk⟩

theorem iidx_run (p : Int → Int) {k : Nat} (hk : k < 61) (w : World) :
    (Instr.index 40 (.agg (iA p)) (.int .i64 (k : Int))).run Try.prog w = .ok (.int .i64 (p k)) w := by
  have h1 : (iA p)[k]? = some (.int .i64 (p k)) := arG_at _ hk
  have h2 : (0 : Int) ≤ (k : Int) ∧ (k : Int) < ((61 : Nat) : Int) := by omega
  simp [Instr.index, run_underlying Try.prsU, asIntOf, h2, h1, go_sem]
  intro h; omega

/-- Of all that lay there only block B turns. -/
structure Xc (B : Nat) (w w' : World) : Prop where
  os : w'.os = w.os
  tape : w'.tape = w.tape
  output : w'.output = w.output
  size : w'.heap.size = w.heap.size
  same : ∀ k, k ≠ B → w'.heap[k]? = w.heap[k]?
theorem Xc.refl (B : Nat) (w : World) : Xc B w w := ⟨rfl, rfl, rfl, rfl, fun _ _ => rfl⟩
theorem Xc.setCell {B : Nat} {w w' : World} (h : Xc B w w') (i : Nat) (v : Value) : Xc B w (w'.setCell ⟨B, i, none⟩ v) := by
  have hs := (Below.refl B w').setCell (p := ⟨B, i, none⟩) (Nat.le_refl B) v
  refine ⟨hs.os.trans h.os, hs.tape.trans h.tape, hs.output.trans h.output, ?_, fun k hk => ?_⟩
  · rw [← h.size]; simp [World.setCell]
  · rw [heap_setCell_other _ _ _ _ hk]; exact h.same k hk
theorem Xc.below {B n : Nat} {w0 w w' : World} (h : Xc B w w') (k : Below n w0 w) (hn : n ≤ B) : Below n w0 w' :=
  ⟨h.os.trans k.os, h.tape.trans k.tape, h.output.trans k.output, by rw [h.size]; exact k.size, fun i hi => (h.same i (by omega)).trans (k.block i hi)⟩
theorem Xc.cell {B : Nat} {w w' : World} (h : Xc B w w') {p : Addr} (hp : p.block ≠ B) : w'.cell? p = w.cell? p := by
  simp only [World.cell?, h.same _ hp]
end Go.Proofs.Ythienikceehcoaa
