/-
  The program's cards as arrays of 128, whole values and in memory, and slices of them. No condition.
-/
import Derived.Test.YtgojlabkngnkdaaQpu
import Derived.Test.YtgojlabkngnkdaaQow
import Derived.Deep.WholeRow
namespace Go.Proofs.Ytgojlabkngnkdaa
open Go.RowKit

theorem Try.setU : Try.prog.underlying 82 = some (.array 128 4) := by kernel_rfl
theorem Try.setI : (Try.prog.info? 82).map (·.size) = some 128 := by kernel_rfl

def arG (f : Nat → Value) : Array Value := ((List.range 128).map f).toArray
theorem arG_size (f : Nat → Value) : (arG f).size = 128 := by simp [arG]
theorem arG_at (f : Nat → Value) {j : Nat} (h : j < 128) : (arG f)[j]? = some (f j) := by simp [arG, h]
theorem arG_out (f : Nat → Value) {j : Nat} (h : ¬ j < 128) : (arG f)[j]? = none := by
  rw [Array.getElem?_eq_none]; rw [arG_size]; omega
theorem arG_of {c : Array Value} {f : Nat → Value} (h : c.size = 128) (g : ∀ j, j < 128 → c[j]? = some (f j)) : c = arG f := by
  apply Array.ext_getElem?
  intro j
  by_cases hj : j < 128
  · rw [g j hj, arG_at f hj]
  · rw [arG_out f hj, Array.getElem?_eq_none (by omega)]
theorem arG_one {f : Nat → Value} (h : ∀ j, (f j).oneCell' = true) : (arG f).all (·.oneCell') = true := by
  rw [Array.all_eq_true_iff_forall_mem]
  intro x hx
  simp only [arG, List.mem_toArray, List.mem_map] at hx
  obtain ⟨j, _, rfl⟩ := hx
  exact h j
/-- A set as a value. -/
def bA (p : Int → Bool) : Array Value := arG fun j => .bool (p (j : Int))
theorem bA_one (p : Int → Bool) : (bA p).all (·.oneCell') = true := arG_one fun _ => rfl
theorem bA_size (p : Int → Bool) : (bA p).size = 128 := arG_size _
def noB : Array Value := bA fun _ => false
theorem noB_size : noB.size = 128 := bA_size _
theorem noB_one : noB.all (·.oneCell') = true := bA_one _
theorem Try.zcE : Try.zeroCells82 = noB := by kernel_rfl
theorem Try.zcS : Try.zeroCells82.size = 128 := by rw [Try.zcE]; exact noB_size
theorem Try.zcO : Try.zeroCells82.all (·.oneCell') = true := by rw [Try.zcE]; exact noB_one
/-- Of all that lay there only block B turns. -/
structure Xc (B : Nat) (w w' : World) : Prop where
  os : w'.os = w.os
  tape : w'.tape = w.tape
  output : w'.output = w.output
  size : w'.heap.size = w.heap.size
  same : ∀ k, k ≠ B → w'.heap[k]? = w.heap[k]?
theorem Xc.refl (B : Nat) (w : World) : Xc B w w := ⟨rfl, rfl, rfl, rfl, fun _ _ => rfl⟩
theorem Xc.setCell {B : Nat} {w w' : World} (h : Xc B w w') (i : Nat) (v : Value) : Xc B w (w'.setCell ⟨B, i, none⟩ v) := by
  have hs := (Below.refl B w').setCell (p := ⟨B, i, none⟩) (Nat.le_refl B) v
  refine ⟨hs.os.trans h.os, hs.tape.trans h.tape, hs.output.trans h.output, ?_, fun k hk => ?_⟩
  · rw [← h.size]; simp [World.setCell]
  · rw [heap_setCell_other _ _ _ _ hk]; exact h.same k hk
theorem Xc.below {B n : Nat} {w0 w w' : World} (h : Xc B w w') (k : Below n w0 w) (hn : n ≤ B) : Below n w0 w' :=
  ⟨h.os.trans k.os, h.tape.trans k.tape, h.output.trans k.output, by rw [h.size]; exact k.size, fun i hi => (h.same i (by omega)).trans (k.block i hi)⟩
theorem Xc.cell {B : Nat} {w w' : World} (h : Xc B w w') {p : Addr} (hp : p.block ≠ B) : w'.cell? p = w.cell? p := by
  simp only [World.cell?, h.same _ hp]

theorem bA_set (p : Int → Bool) {b : Bool} {d : Nat} (hd : d < 128) : (bA p).setIfInBounds d (.bool b) = bA fun x => if x = (d : Int) then b else p x := by
  refine arG_of (by rw [Array.size_setIfInBounds]; exact bA_size p) fun j hj => ?_
  rw [Array.getElem?_setIfInBounds]
  by_cases e : d = j
  · subst e
    rw [if_pos rfl, if_pos (by rw [bA_size]; exact hd)]
    simp
  · rw [if_neg e]
    have e2 : ¬ (j : Int) = (d : Int) := by omega
    simp only [e2, if_false]
    exact arG_at _ hj
theorem bA_at (p : Int → Bool) {j : Nat} (h : j < 128) : (bA p)[j]? = some (.bool (p (j : Int))) := arG_at _ h

/-- The cells of cards, one behind the other. -/
def flatD : List (Int → Bool) → List Value
  | [] => []
  | p :: t => (bA p).toList ++ flatD t
theorem flatD_len (ps : List (Int → Bool)) : (flatD ps).length = ps.length * 128 := by
  induction ps with
  | nil => rfl
  | cons p t ih => simp only [flatD, List.length_append, ih, Array.length_toList, bA_size, List.length_cons]; omega
theorem flatD_app (a b : List (Int → Bool)) : flatD (a ++ b) = flatD a ++ flatD b := by
  induction a with
  | nil => rfl
  | cons p t ih => simp only [List.cons_append, flatD, ih, List.append_assoc]
theorem flatD_at {ps : List (Int → Bool)} {k : Nat} {p : Int → Bool} (h : ps[k]? = some p) {j : Nat} (hj : j < 128) : (flatD ps)[k * 128 + j]? = some (.bool (p (j : Int))) := by
  induction ps generalizing k with
  | nil => simp at h
  | cons q t ih =>
    cases k with
    | zero =>
      simp only [List.getElem?_cons_zero, Option.some.injEq] at h
      subst h
      simp only [flatD, Nat.zero_mul, Nat.zero_add]
      rw [List.getElem?_append_left (by simp [bA_size]; exact hj)]
      simpa using bA_at q hj
    | succ k =>
      simp only [List.getElem?_cons_succ] at h
      simp only [flatD]
      rw [List.getElem?_append_right (by simp [bA_size]; omega), show (k + 1) * 128 + j - (bA q).toList.length = k * 128 + j by simp [bA_size]; omega]
      exact ih h
theorem flatD_one_cell (ps : List (Int → Bool)) : ∀ u ∈ flatD ps, u.oneCell' = true := by
  induction ps with
  | nil => intro u h; simp [flatD] at h
  | cons p t ih =>
    intro u h
    simp only [flatD, List.mem_append] at h
    rcases h with h | h
    · have := bA_one p
      rw [Array.all_eq_true_iff_forall_mem] at this
      exact this u (by simpa using h)
    · exact ih u h

/-- A slice of cards of the call's own. -/
def Dk (w : World) (B : Nat) (v : Value) (ps : List (Int → Bool)) : Prop := w.ownsRow B 82 128 v ps.length (flatD ps)
theorem Dk.nil (w : World) (B : Nat) : Dk w B (.slice none 0 0) [] := World.ownsRow_nil _ _ _ _
theorem rowZ_below {w w' : World} {B C n z : Nat} {t : TypeId} {v : Value} {xs : List Value} (h : w.ownsRow B t z v n xs) (hb : Below C w w') (hC : w.heap.size ≤ C) : w'.ownsRow B t z v n xs := by
  obtain ⟨h1, h2⟩ := h
  refine ⟨h1, ?_⟩
  rcases h2 with h2 | ⟨g, cap, cur, hv, hg, hh, r⟩
  · exact .inl h2
  · refine .inr ⟨g, cap, cur, hv, hg, ?_, r⟩
    rw [hb.block g (Nat.lt_of_lt_of_le (Array.getElem?_eq_some_iff.1 hh).1 hC)]; exact hh
theorem rowZ_mono {w : World} {B C n z : Nat} {t : TypeId} {v : Value} {xs : List Value} (h : w.ownsRow B t z v n xs) (hC : C ≤ B) : w.ownsRow C t z v n xs := by
  obtain ⟨h1, h2⟩ := h
  refine ⟨h1, ?_⟩
  rcases h2 with h2 | ⟨g, cap, cur, hv, hg, r⟩
  · exact .inl h2
  · exact .inr ⟨g, cap, cur, hv, by omega, r⟩
theorem Dk.below {w w' : World} {B C : Nat} {v : Value} {ps : List (Int → Bool)} (h : Dk w B v ps) (hb : Below C w w') (hC : w.heap.size ≤ C) : Dk w' B v ps := rowZ_below h hb hC
theorem Dk.mono {w : World} {B C : Nat} {v : Value} {ps : List (Int → Bool)} (h : Dk w B v ps) (hC : C ≤ B) : Dk w C v ps := rowZ_mono h hC
/-- Where the cards lie. -/
def Dr (w : World) (v : Value) (ps : List (Int → Bool)) : Prop := ∃ p cap, v = .slice p ps.length cap ∧ (0 < ps.length → ∃ g o, p = some ⟨g, o, none⟩ ∧ g < w.heap.size ∧ ∀ k q, ps[k]? = some q → ∀ j, j < 128 → w.cell? ⟨g, o + (k * 128 + j), none⟩ = some (.bool (q (j : Int))))
theorem Dk.dr {w : World} {B : Nat} {v : Value} {ps : List (Int → Bool)} (h : Dk w B v ps) : Dr w v ps := by
  rcases id h.2 with ⟨rfl, e⟩ | ⟨g, cap, cur, rfl, hB, hh, _⟩
  · exact ⟨none, 0, by rw [e], fun h0 => by omega⟩
  · refine ⟨some ⟨g, 0, none⟩, cap, rfl, fun _ => ⟨g, 0, rfl, (Array.getElem?_eq_some_iff.1 hh).1, fun k q hq j hj => ?_⟩⟩
    have := World.ownsRow.cells h (g := g) rfl (k * 128 + j) _ (flatD_at hq hj)
    rwa [addr_add] at this
theorem Dr.below {w w' : World} {B : Nat} {v : Value} {ps : List (Int → Bool)} (h : Dr w v ps) (hb : Below B w w') (hB : w.heap.size ≤ B) : Dr w' v ps := by
  obtain ⟨p, cap, hv, hx⟩ := h
  refine ⟨p, cap, hv, fun h0 => ?_⟩
  obtain ⟨g, o, hp, hlt, hc⟩ := hx h0
  exact ⟨g, o, hp, Nat.lt_of_lt_of_le hlt hb.size, fun k q hq j hj => (hb.cell (p := ⟨g, o + (k * 128 + j), none⟩) (by show g < B; omega)).trans (hc k q hq j hj)⟩
end Go.Proofs.Ytgojlabkngnkdaa
