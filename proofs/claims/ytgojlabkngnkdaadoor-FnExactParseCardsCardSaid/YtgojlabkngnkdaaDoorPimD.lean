/-
  The library's split and its reading of a numeral, in the words of the walk. Conditions: the library's variables hold what they held at the start.
-/
import Derived.Test.YtgojlabkngnkdaaDoorNtx
import Derived.Test.YtgojlabkngnkdaaDoorPsqD
namespace Go.Proofs.YtgojlabkngnkdaaDoor
open Go.RowKit

/-- What the library's variables hold. -/
structure Env (w : World) : Prop where
  ten : Ten w
  max : ∃ m, w.cell? ⟨0, 0, none⟩ = some (.int .i64 m)
  syn : ∃ ev, w.cell? ⟨1, 0, none⟩ = some ev ∧ (ev = .nilIface ∨ ∃ te pe, ev = .iface te pe)
  rng : ∃ ev, w.cell? ⟨2, 0, none⟩ = some ev ∧ (ev = .nilIface ∨ ∃ te pe, ev = .iface te pe)
theorem cell_kept {w w' : World} {B : Nat} {a : Addr} {v : Value} (h : w.cell? a = some v) (hb : Below B w w') (hB : w.heap.size ≤ B) : w'.cell? a = some v :=
  (hb.cell (Nat.lt_of_lt_of_le (World.block_lt_of_cell? _ _ h) hB)).trans h
theorem Env.below {w w' : World} {B : Nat} (h : Env w) (hb : Below B w w') (hB : w.heap.size ≤ B) : Env w' := by
  obtain ⟨h1, ⟨m, h2⟩, ⟨e3, h3, k3⟩, ⟨e4, h4, k4⟩⟩ := h
  exact ⟨h1.below hb hB, ⟨m, cell_kept h2 hb hB⟩, ⟨e3, cell_kept h3 hb hB, k3⟩, ⟨e4, cell_kept h4 hb hB, k4⟩⟩

theorem atoi_ok (l : List UInt8) (hl : l.length ≤ 1073741824) (x : Int) (h : Lib.atoiAll l = .ok x) (w : World) :
    Calls Tryd.prog 36 #[.string (bstr l)] w fun e w' => e = .returned (.tuple #[.int .i64 x, .nilIface]) ∧ Below w.heap.size w w' := by
  refine (Tryd.strconv_Atoi_ok (bstr l) (by rw [bstr_size]; omega) x (by simpa [bstr] using h) w).mono ?_
  rintro e w' ⟨rfl, rfl | ⟨t, rfl⟩⟩
  · exact ⟨rfl, Below.refl _ _⟩
  · exact ⟨rfl, Lib.bytesWorld_below _ _ _⟩
theorem atoi_bad (l : List UInt8) (hl : l.length ≤ 1073741824) (h : ∀ x, Lib.atoiAll l ≠ .ok x) (w : World) (hE : Env w) :
    Calls Tryd.prog 36 #[.string (bstr l)] w fun e w' => ∃ x N, e = .returned (.tuple #[.int .i64 x, .iface 107 (.pointer (some ⟨N, 0, none⟩))]) ∧ Below w.heap.size w w' := by
  cases e : Lib.atoiAll l
  · rename_i x
    exact absurd e (h x)
  · obtain ⟨ev, h1, h2⟩ := hE.syn
    have H : Calls Tryd.prog 36 #[.string (bstr l)] w fun e w' => ∃ N, e = .returned (.tuple #[.int .i64 (0), .iface 107 (.pointer (some ⟨N, 0, none⟩))]) ∧ w.heap.size ≤ N ∧ w'.heap[N]? = some (.cells #[.string ⟨#[65, 116, 111, 105]⟩, .string (bstr l), ev] 130 (0, 0)) ∧ Below w.heap.size w w' :=
      Any.strconv_Atoi_syntax Tryd.laysC172 (bstr l) (by rw [bstr_size]; omega) (by simpa [bstr] using e) ev w h1 h2
    refine H.mono ?_
    rintro e w' ⟨N, rfl, _, _, hb⟩
    exact ⟨_, _, rfl, hb⟩
  · obtain ⟨ev, h1, h2⟩ := hE.rng
    refine (Tryd.strconv_Atoi_range (bstr l) (by rw [bstr_size]; omega) (by simpa [bstr] using e) ev w h1 h2).mono ?_
    rintro e w' ⟨N, rfl, _, _, hb⟩
    exact ⟨_, _, rfl, hb⟩

theorem bstr_data (l : List UInt8) : (bstr l).data.toList = l := by simp [bstr]
end Go.Proofs.YtgojlabkngnkdaaDoor
