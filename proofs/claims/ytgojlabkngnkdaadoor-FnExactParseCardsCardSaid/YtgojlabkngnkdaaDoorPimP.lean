/-
  The library's splitting at the points, by its contract. Condition: the library's variables hold what they held at the start.
-/
import Derived.Test.YtgojlabkngnkdaaDoorPspP
namespace Go.Proofs.YtgojlabkngnkdaaDoor.P
open Go.RowKit

theorem count_plus (l : List UInt8) : Lib.countB (bstr l) ⟨#[46]⟩ = l.count 46 := by
  rw [← Lib.count_one]
  unfold Lib.countB
  rw [bstr_data]
theorem splitB_words (l : List UInt8) : Lib.splitB ⟨#[46]⟩ 0 (Lib.countB (bstr l) ⟨#[46]⟩) (bstr l) = (splitW l).map bstr := by
  have h := Lib.splitB_data ⟨#[46]⟩ 0 (Lib.countB (bstr l) ⟨#[46]⟩) (bstr l)
  rw [count_plus, bstr_data, show (⟨#[46]⟩ : ByteArray).data.toList = [46] from rfl, splitK_all] at h
  rw [count_plus, ← h, List.map_map]
  symm
  rw [List.map_congr_left (g := id)]
  · simp
  · intro x _
    show bstr x.data.toList = x
    unfold bstr
    simp
theorem words_count (l : List UInt8) : Lib.countB (bstr l) ⟨#[46]⟩ + 1 = (splitW l).length := by
  have h := Lib.splitB_all ⟨#[46]⟩ (by decide) 0 _ (bstr l) rfl
  rw [splitB_words, List.length_map] at h
  exact h.symm
/-- The row that the split lays. -/
def wordsO (l : List UInt8) : Obj := .cells (((splitW l).map bstr).map Value.string).toArray 9
theorem split_any (l : List UInt8) (hl : l.length ≤ 1073741824) (w : World) (hE : Env w) :
    Calls Tryd.prog 47 #[.string (bstr l), .string ⟨#[46]⟩] w fun e w' => e = .returned (.slice (some ⟨w.heap.size, 0, none⟩) (splitW l).length (splitW l).length) ∧ w' = w.alloc (wordsO l) := by
  obtain ⟨m, hm⟩ := hE.max
  refine (Tryd.strings_Split (bstr l) ⟨#[46]⟩ m w (by rw [bstr_size]; omega) hm (by decide)).mono ?_
  rintro e w' ⟨rfl, rfl⟩
  rw [words_count, splitB_words]
  exact ⟨rfl, rfl⟩
theorem split_row (l : List UInt8) (hl : l.length ≤ 1073741824) (w : World) (hE : Env w) :
    Calls Tryd.prog 47 #[.string (bstr l), .string ⟨#[46]⟩] w fun e w' => ∃ g, e = .returned (.slice (some ⟨g, 0, none⟩) (splitW l).length (splitW l).length) ∧ w'.heap[g]? = some (wordsO l) ∧ Below w.heap.size w w' := by
  refine (split_any l hl w hE).mono ?_
  rintro e w' ⟨rfl, rfl⟩
  exact ⟨_, rfl, heap_alloc_new _ _, (Below.refl _ w).alloc (Nat.le_refl _) _⟩
theorem words_cell {w : World} {g : Nat} {l : List UInt8} (h : w.heap[g]? = some (wordsO l)) {j : Nat} {x : List UInt8} (hj : (splitW l)[j]? = some x) : w.cell? ⟨g, j, none⟩ = some (.string (bstr x)) := by
  unfold wordsO at h
  simp only [World.cell?, h]
  simp [hj]
theorem words_apart {w : World} {g B : Nat} {l : List UInt8} {v : Value} {ys : List Int} (h : w.heap[g]? = some (wordsO l)) (ho : Ow w B v ys) : some g ≠ v.ownBlock := by
  rcases ho.2 with ⟨rfl, _⟩ | ⟨gv, cap, cur, rfl, _, hh, _⟩
  · simp [Value.ownBlock]
  · intro e
    have e2 : g = gv := by simpa [Value.ownBlock] using e
    subst e2
    rw [hh] at h
    unfold wordsO at h
    simp at h

end Go.Proofs.YtgojlabkngnkdaaDoor.P
