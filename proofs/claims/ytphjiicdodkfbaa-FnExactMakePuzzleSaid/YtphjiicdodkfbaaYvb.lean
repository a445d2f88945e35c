/-
  The clue of a kind about pieces, in the model, by its contract. Conditions: pieces; a kind of 0 to 5; a sum or length not below 0.
-/
import Derived.Test.YtphjiicdodkfbaaYva
namespace Go.Proofs.Ytphjiicdodkfbaa
open Go.RowKit

theorem cells3_of {w : World} {b : Nat} {x y z : Value} {t : TypeId} (h : w.heap[b]? = some (.cells #[x, y, z] t (0, 0))) :
    w.cell? ⟨b, 0, none⟩ = some x ∧ w.cell? ⟨b, 1, none⟩ = some y ∧ w.cell? ⟨b, 2, none⟩ = some z ∧ w.frozen? ⟨b, 0, none⟩ = false ∧ w.frozen? ⟨b, 1, none⟩ = false ∧ w.frozen? ⟨b, 2, none⟩ = false :=
  ⟨by rw [cell_of_row _ _ _ _ _ _ h]; rfl, by rw [cell_of_row _ _ _ _ _ _ h]; rfl, by rw [cell_of_row _ _ _ _ _ _ h]; rfl, frozen_of_row _ _ _ _ _ h, frozen_of_row _ _ _ _ _ h, frozen_of_row _ _ _ _ _ h⟩
theorem ab_cases (k a : Int) (xs : List Int) : (aloB k = true ∧ (abL k a xs) = ⟨k, vaL k 0 xs, 0⟩) ∨ (aloB k = false ∧ abL k a xs = ⟨k, a, vaL k a xs⟩) := by
  cases h : aloB k
  · exact .inr ⟨rfl, by simp [abL, h]⟩
  · exact .inl ⟨rfl, by simp [abL, h]⟩

set_option maxHeartbeats 4000000 in
theorem pzOf_any (k a : Int) (v : Value) (xs : List Int) (w : World) (h : Sv w v xs) (hg : Good xs) (hk : 0 ≤ k ∧ k ≤ 5) (ha : 0 ≤ a) :
    Calls Try.prog 93 #[.int .i64 k, .int .i64 a, v] w fun e w' => e = .returned (.agg #[.int .i64 (abL k a xs).k, .int .i64 (abL k a xs).a, .int .i64 (abL k a xs).b]) ∧ Below w.heap.size w w' := by
  have b1 : Below w.heap.size w (w.alloc (.cells #[.int .i64 0, .int .i64 0, .int .i64 0] 29)) := (Below.refl _ _).alloc (Nat.le_refl _) _
  have PV := fun (q : Int) (hq : 0 ≤ q) => Lib.hid (pzValue_any k q v xs _ (h.below b1 (Nat.le_refl _)) hg hk hq)
  clear h hg
  rcases ab_cases k a xs with ⟨hA, hR⟩ | ⟨hA, hR⟩
  all_goals
    rw [hR]
    clear hR
    simp only
  · have PV := PV 0 (by omega)
    generalize vaL k 0 xs = V at *
    go_enter Try.func93, Try.ntmps93
    go_wp2_with fail
    refine (pzAlone_any _ _).mono ?_
    rintro e w2 ⟨rfl, rfl⟩
    rw [hA]
    go_wp2_with fail
    refine PV.out.mono ?_
    rintro e w2 ⟨rfl, b2⟩
    obtain ⟨c1, c2, c3, f1, f2, f3⟩ := cells3_of ((b2.block _ (by simp)).trans (heap_alloc_new w (.cells #[.int .i64 0, .int .i64 0, .int .i64 0] 29)))
    have HB := Lib.hid (nxt b1 b2)
    clear b2 b1 PV
    go_wp2_with fail
    exact bodyPost_ret (v := .agg #[.int .i64 k, .int .i64 V, .int .i64 0]) (by simp [results, Try.results93, go_sem, c1, c2, c3]) rfl ⟨rfl, below3 HB.out (Nat.le_refl _) _ _ _ _ _ _⟩
  · have PV := PV a ha
    generalize vaL k a xs = V at *
    go_enter Try.func93, Try.ntmps93
    go_wp2_with fail
    refine (pzAlone_any _ _).mono ?_
    rintro e w2 ⟨rfl, rfl⟩
    rw [hA]
    go_wp2_with fail
    refine PV.out.mono ?_
    rintro e w2 ⟨rfl, b2⟩
    obtain ⟨c1, c2, c3, f1, f2, f3⟩ := cells3_of ((b2.block _ (by simp)).trans (heap_alloc_new w (.cells #[.int .i64 0, .int .i64 0, .int .i64 0] 29)))
    have HB := Lib.hid (nxt b1 b2)
    clear b2 b1 PV
    go_wp2_with fail
    exact bodyPost_ret (v := .agg #[.int .i64 k, .int .i64 a, .int .i64 V]) (by simp [results, Try.results93, go_sem, c1, c2, c3]) rfl ⟨rfl, below3 HB.out (Nat.le_refl _) _ _ _ _ _ _⟩
end Go.Proofs.Ytphjiicdodkfbaa
