/-
  The library's split and its reading of a numeral, in the words of the walk. Conditions: the library's variables hold what they held at the start.
-/
import Derived.Test.YtaihgdecoaajoaaDoorNtx
import Derived.Test.YtaihgdecoaajoaaDoorPsqD
namespace Go.Proofs.YtaihgdecoaajoaaDoor
open Go.RowKit

/-- What the library's variables hold. -/
structure Env (w : World) : Prop where
  ten : Ten w
  max : ∃ m, w.cell? ⟨3, 0, none⟩ = some (.int .i64 m)
  syn : ∃ ev, w.cell? ⟨0, 0, none⟩ = some ev ∧ (ev = .nilIface ∨ ∃ te pe, ev = .iface te pe)
  rng : ∃ ev, w.cell? ⟨1, 0, none⟩ = some ev ∧ (ev = .nilIface ∨ ∃ te pe, ev = .iface te pe)
theorem cell_kept {w w' : World} {B : Nat} {a : Addr} {v : Value} (h : w.cell? a = some v) (hb : Below B w w') (hB : w.heap.size ≤ B) : w'.cell? a = some v :=
  (hb.cell (Nat.lt_of_lt_of_le (World.block_lt_of_cell? _ _ h) hB)).trans h
theorem Env.below {w w' : World} {B : Nat} (h : Env w) (hb : Below B w w') (hB : w.heap.size ≤ B) : Env w' := by
  obtain ⟨h1, ⟨m, h2⟩, ⟨e3, h3, k3⟩, ⟨e4, h4, k4⟩⟩ := h
  exact ⟨h1.below hb hB, ⟨m, cell_kept h2 hb hB⟩, ⟨e3, cell_kept h3 hb hB, k3⟩, ⟨e4, cell_kept h4 hb hB, k4⟩⟩

theorem atoi_ok (l : List UInt8) (hl : l.length ≤ 1073741824) (x : Int) (h : Lib.atoiAll l = .ok x) (w : World) :
    Calls Tryd.prog 36 #[.string (bstr l)] w fun e w' => e = .returned (.tuple #[.int .i64 x, .nilIface]) ∧ Below w.heap.size w w' := by
  refine (Tryd.strconv_Atoi_ok (bstr l) (by rw [bstr_size]; omega) x (by simpa [bstr] using h) w).mono ?_
  rintro e w' ⟨rfl, rfl | ⟨t, rfl⟩⟩
  · exact ⟨rfl, Below.refl _ _⟩
  · exact ⟨rfl, Lib.bytesWorld_below _ _ _⟩
theorem atoi_bad (l : List UInt8) (hl : l.length ≤ 1073741824) (h : ∀ x, Lib.atoiAll l ≠ .ok x) (w : World) (hE : Env w) :
    Calls Tryd.prog 36 #[.string (bstr l)] w fun e w' => ∃ x N, e = .returned (.tuple #[.int .i64 x, .iface 64 (.pointer (some ⟨N, 0, none⟩))]) ∧ Below w.heap.size w w' := by
  cases e : Lib.atoiAll l
  · rename_i x
    exact absurd e (h x)
  · obtain ⟨ev, h1, h2⟩ := hE.syn
    have H : Calls Tryd.prog 36 #[.string (bstr l)] w fun e w' => ∃ N, e = .returned (.tuple #[.int .i64 (0), .iface 64 (.pointer (some ⟨N, 0, none⟩))]) ∧ w.heap.size ≤ N ∧ w'.heap[N]? = some (.cells #[.string ⟨#[65, 116, 111, 105]⟩, .string (bstr l), ev] 84 (0, 0)) ∧ Below w.heap.size w w' :=
      Any.strconv_Atoi_syntax Tryd.laysC172 (bstr l) (by rw [bstr_size]; omega) (by simpa [bstr] using e) ev w h1 h2
    refine H.mono ?_
    rintro e w' ⟨N, rfl, _, _, hb⟩
    exact ⟨_, _, rfl, hb⟩
  · obtain ⟨ev, h1, h2⟩ := hE.rng
    refine (Tryd.strconv_Atoi_range (bstr l) (by rw [bstr_size]; omega) (by simpa [bstr] using e) ev w h1 h2).mono ?_
    rintro e w' ⟨N, rfl, _, _, hb⟩
    exact ⟨_, _, rfl, hb⟩

theorem bstr_data (l : List UInt8) : (bstr l).data.toList = l := by simp [bstr]
theorem count_plus (l : List UInt8) : Lib.countB (bstr l) ⟨#[43]⟩ = l.count 43 := by
  rw [← Lib.count_one]
  unfold Lib.countB
  rw [bstr_data]
theorem splitB_words (l : List UInt8) : Lib.splitB ⟨#[43]⟩ 0 (Lib.countB (bstr l) ⟨#[43]⟩) (bstr l) = (splitW l).map bstr := by
  have h := Lib.splitB_data ⟨#[43]⟩ 0 (Lib.countB (bstr l) ⟨#[43]⟩) (bstr l)
  rw [count_plus, bstr_data, show (⟨#[43]⟩ : ByteArray).data.toList = [43] from rfl, splitK_all] at h
  rw [count_plus, ← h, List.map_map]
  symm
  rw [List.map_congr_left (g := id)]
  · simp
  · intro x _
    show bstr x.data.toList = x
    unfold bstr
    simp
theorem words_count (l : List UInt8) : Lib.countB (bstr l) ⟨#[43]⟩ + 1 = (splitW l).length := by
  have h := Lib.splitB_all ⟨#[43]⟩ (by decide) 0 _ (bstr l) rfl
  rw [splitB_words, List.length_map] at h
  exact h.symm
/-- The row that the split lays. -/
def wordsO (l : List UInt8) : Obj := .cells (((splitW l).map bstr).map Value.string).toArray 9
theorem split_any (l : List UInt8) (hl : l.length ≤ 1073741824) (w : World) (hE : Env w) :
    Calls Tryd.prog 35 #[.string (bstr l), .string ⟨#[43]⟩] w fun e w' => e = .returned (.slice (some ⟨w.heap.size, 0, none⟩) (splitW l).length (splitW l).length) ∧ w' = w.alloc (wordsO l) := by
  obtain ⟨m, hm⟩ := hE.max
  refine (Tryd.strings_Split (bstr l) ⟨#[43]⟩ m w (by rw [bstr_size]; omega) hm (by decide)).mono ?_
  rintro e w' ⟨rfl, rfl⟩
  rw [words_count, splitB_words]
  exact ⟨rfl, rfl⟩
theorem split_row (l : List UInt8) (hl : l.length ≤ 1073741824) (w : World) (hE : Env w) :
    Calls Tryd.prog 35 #[.string (bstr l), .string ⟨#[43]⟩] w fun e w' => ∃ g, e = .returned (.slice (some ⟨g, 0, none⟩) (splitW l).length (splitW l).length) ∧ w'.heap[g]? = some (wordsO l) ∧ Below w.heap.size w w' := by
  refine (split_any l hl w hE).mono ?_
  rintro e w' ⟨rfl, rfl⟩
  exact ⟨_, rfl, heap_alloc_new _ _, (Below.refl _ w).alloc (Nat.le_refl _) _⟩
theorem words_cell {w : World} {g : Nat} {l : List UInt8} (h : w.heap[g]? = some (wordsO l)) {j : Nat} {x : List UInt8} (hj : (splitW l)[j]? = some x) : w.cell? ⟨g, j, none⟩ = some (.string (bstr x)) := by
  unfold wordsO at h
  simp only [World.cell?, h]
  simp [hj]
theorem words_apart {w : World} {g B : Nat} {l : List UInt8} {v : Value} {ys : List Int} (h : w.heap[g]? = some (wordsO l)) (ho : Ow w B v ys) : some g ≠ v.ownBlock := by
  rcases ho.2 with ⟨rfl, _⟩ | ⟨gv, cap, cur, rfl, _, hh, _⟩
  · simp [Value.ownBlock]
  · intro e
    have e2 : g = gv := by simpa [Value.ownBlock] using e
    subst e2
    rw [hh] at h
    unfold wordsO at h
    simp at h

end Go.Proofs.YtaihgdecoaajoaaDoor
