/-
  Slices of slices of the call's own whose rows lie one behind the other: appended to by rows, kept, read; a list appended to whose room is cut off. Conditions: at most 2^30 rows.
-/
import Derived.Test.YtgojlabkngnkdaaQow
import Derived.ArgAppend
namespace Go.Proofs.Ytgojlabkngnkdaa
open Go.RowKit

structure RwAt (w : World) (B C : Nat) (v : Value) (vals : List Value) (pl : List (List Int)) : Prop where
  out : w.ownsRow B 22 1 v pl.length vals
  row : ∀ j, j < pl.length → Ow w C (vals.getD j undef) (rowL pl j)
  inc : ∀ i j, i < j → j < pl.length → ∀ p q, (vals.getD i undef).ownBlock = some p → (vals.getD j undef).ownBlock = some q → p < q
theorem RwAt.nil (w : World) (B C : Nat) : RwAt w B C (.slice none 0 0) [] [] := ⟨World.ownsRow_nil _ _ _ _, fun j h => by simp at h, fun i j _ h => by simp at h⟩
theorem RwAt.len {w : World} {B C : Nat} {v : Value} {vals : List Value} {pl : List (List Int)} (h : RwAt w B C v vals pl) : vals.length = pl.length := by have := h.out.1; omega
theorem RwAt.below {w w' : World} {B C D : Nat} {v : Value} {vals : List Value} {pl : List (List Int)} (h : RwAt w B C v vals pl) (hb : Below D w w') (hC : w.heap.size ≤ D) : RwAt w' B C v vals pl :=
  ⟨row1_below h.out hb hC, fun j hj => (h.row j hj).below hb hC, h.inc⟩
theorem RwAt.mono {w : World} {B C E F : Nat} {v : Value} {vals : List Value} {pl : List (List Int)} (h : RwAt w B C v vals pl) (hE : E ≤ B) (hF : F ≤ C) : RwAt w E F v vals pl :=
  ⟨row1_mono h.out hE, fun j hj => (h.row j hj).mono hF, h.inc⟩
theorem RwAt.svv {w : World} {B C : Nat} {v : Value} {vals : List Value} {pl : List (List Int)} (h : RwAt w B C v vals pl) : Svv w v pl := by
  rcases id h.out.2 with ⟨e, hn⟩ | ⟨g, cap, cur, e, hg, hh, _⟩
  · exact ⟨none, 0, by rw [e, hn], fun h0 => by omega⟩
  · exact ⟨some ⟨g, 0, none⟩, cap, e, fun _ => ⟨g, 0, rfl, (Array.getElem?_eq_some_iff.1 hh).1, fun j hj => ⟨vals.getD j undef, rowvals h.out e hj, (h.row j hj).sv⟩⟩⟩
theorem RwAt.form {w : World} {B C : Nat} {v : Value} {vals : List Value} {pl : List (List Int)} (h : RwAt w B C v vals pl) : ∃ p cap, v = .slice p pl.length cap := by
  obtain ⟨p, cap, e, _⟩ := h.svv
  exact ⟨p, cap, e⟩
theorem RwAt.cells {w : World} {B C : Nat} {v : Value} {vals : List Value} {pl : List (List Int)} (h : RwAt w B C v vals pl) (h0 : 0 < pl.length) : ∃ g cap, v = .slice (some ⟨g, 0, none⟩) pl.length cap ∧ B ≤ g ∧ g < w.heap.size ∧ ∀ j, j < pl.length → w.cell? ⟨g, j, none⟩ = some (vals.getD j undef) := by
  rcases id h.out.2 with ⟨_, hn⟩ | ⟨g, cap, cur, e, hg, hh, _⟩
  · omega
  · refine ⟨g, cap, e, hg, (Array.getElem?_eq_some_iff.1 hh).1, fun j hj => ?_⟩
    have := rowvals h.out e hj
    rwa [Nat.zero_add] at this
structure Lf (B r : Nat) (w w' : World) : Prop where
  bel : Below B w w'
  keep : ∀ i, i < w.heap.size → i ≠ r → (∀ c q, w.heap[i]? ≠ some (.cells c 22 q)) → w'.heap[i]? = w.heap[i]?
theorem Lf.refl (B r : Nat) (w : World) : Lf B r w w := ⟨Below.refl _ _, fun _ _ _ _ => rfl⟩
theorem Lf.trans {B r : Nat} {w w1 w2 : World} (h : Lf B r w w1) (k : Lf B r w1 w2) : Lf B r w w2 :=
  ⟨h.bel.trans k.bel, fun i hi hr ht => by
    have e := h.keep i hi hr ht
    exact (k.keep i (Nat.lt_of_lt_of_le hi h.bel.size) hr (fun c q => by rw [e]; exact ht c q)).trans e⟩
theorem Lf.of {B r : Nat} {w w1 w2 : World} (h : Lf B r w w1) (k : Below w1.heap.size w1 w2) (hB : B ≤ w1.heap.size) : Lf B r w w2 :=
  h.trans ⟨k.mono hB, fun i hi _ _ => k.block i hi⟩
end Go.Proofs.Ytgojlabkngnkdaa
