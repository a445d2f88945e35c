/-
  The laws' helpers on cards, by their contracts: copied, measured, found equal, marked and found again. Condition: at most 2^20 lists and numbers.
-/
import Derived.Test.YtgojlabkngnkdaaDoorQow
import Derived.Test.YtgojlabkngnkdaaDoorPsk4
import Derived.Test.YtgojlabkngnkdaaDoorKga
namespace Go.Proofs.YtgojlabkngnkdaaDoor
open Go.RowKit

theorem Tryd.cardU : ∃ fs, Tryd.prog.underlying 28 = some (.struct fs) := ⟨_, Tryd.underlying28⟩
theorem Tryd.cardI : (Tryd.prog.info? 28).map (·.size) = some 2 := by kernel_rfl
theorem lcard_n (w : World) (n : Int) (v : Value) : (w.alloc (.cells #[.int .i64 n, v] 24)).cell? ⟨w.heap.size, 0, none⟩ = some (.int .i64 n) := by
  rw [cell_of_row _ _ _ _ _ _ (heap_alloc_new w _)]; rfl
theorem lcard_v (w : World) (n : Int) (v : Value) : (w.alloc (.cells #[.int .i64 n, v] 24)).cell? ⟨w.heap.size, 1, none⟩ = some v := by
  rw [cell_of_row _ _ _ _ _ _ (heap_alloc_new w _)]; rfl

set_option maxHeartbeats 2000000 in
theorem szCards_any (n : Int) (v : Value) (Ls : List (List Int)) (w : World) (h : Svv w v Ls) (hn : Ls.length ≤ 9223372036854775807) (hx : ∀ j, j < Ls.length → (rowL Ls j).length ≤ 9223372036854775807) :
    Calls Tryd.prog 7 #[.agg #[.int .i64 n, v], .int .i64 1048576] w fun e w' => (∃ r : Int, e = .returned (.int .i64 r) ∧ (r < 0 ∨ (0 ≤ r ∧ Few2 Ls))) ∧ Below w.heap.size w w' := by
  obtain ⟨p, cap, rfl⟩ := svv_form h
  have hb0 : Below w.heap.size w (w.alloc (.cells #[.int .i64 n, .slice p Ls.length cap] 24)) := (Below.refl _ w).alloc (Nat.le_refl _) _
  have SZ := Lib.hid (szIntSS_any _ Ls _ (h.below hb0 (Nat.le_refl _)) hn hx)
  clear h hx
  go_enter Tryd.func7, Tryd.ntmps7
  go_wp2_with (go_at_call 25; refine SZ.out.mono ?_; rintro e w1 ⟨⟨r, rfl, hr⟩, rfl⟩)
  all_goals go_ret
  · exact ⟨⟨_, rfl, .inl (by omega)⟩, hb0⟩
  · exact ⟨⟨_, rfl, .inr ⟨by omega, by rcases hr with h | h; omega; exact h.2⟩⟩, hb0⟩

set_option maxHeartbeats 2000000 in
theorem toCards_any (n : Int) (v : Value) (Ls : List (List Int)) (w : World) (h : Svv w v Ls) (hf : Few2 Ls) :
    Calls Tryd.prog 9 #[.agg #[.int .i64 n, v]] w fun e w' => ∃ u, e = .returned (.agg #[.int .i64 n, u]) ∧ Oww w' w.heap.size w'.heap.size u Ls ∧ Below w.heap.size w w' := by
  obtain ⟨p, cap, rfl⟩ := svv_form h
  obtain ⟨W, eW⟩ : ∃ W, ((w.alloc (.cells #[.int .i64 n, .slice p Ls.length cap] 24)).alloc (.cells #[.int .i64 0, .slice none 0 0] 28)).alloc (.cells #[.int .i64 n, .slice none 0 0] 28) = W := ⟨_, rfl⟩
  have hb0 : Below w.heap.size w W := by rw [← eW]; exact (((Below.refl _ w).alloc (Nat.le_refl _) _).alloc (by simp) _).alloc (by simp; omega) _
  have hz : W.heap.size = w.heap.size + 1 + 1 + 1 := by rw [← eW]; simp
  have k1 : W.heap[w.heap.size + 1]? = some (.cells #[.int .i64 0, .slice none 0 0] 28 (0, 0)) := by rw [← eW]; exact blk_1 _ _ _ _
  have k2 : W.heap[w.heap.size + 1 + 1]? = some (.cells #[.int .i64 n, .slice none 0 0] 28 (0, 0)) := by rw [← eW]; exact blk_2 _ _ _ _
  have TI := Lib.hid (toIntSS_any _ Ls _ (h.below hb0 (Nat.le_refl _)) hf)
  have EW := Lib.hid eW
  clear h hf eW
  go_enter Tryd.func9, Tryd.ntmps9
  go_wp2_with (go_at_call 28; rw [EW.out]; refine TI.out.mono ?_; rintro e w1 ⟨u, rfl, o1, b1⟩; obtain ⟨p2, cp2, rfl⟩ := svv_form o1.svv; obtain ⟨c10, c11, f10, f11⟩ := cells2_of ((b1.block (w.heap.size + 1) (by omega)).trans k1); obtain ⟨c20, c21, f20, f21⟩ := cells2_of ((b1.block (w.heap.size + 1 + 1) (by omega)).trans k2))
  have hz1 := b1.size
  have hA : Abv W.heap.size w1 (((w1.setCell ⟨w.heap.size + 1 + 1, 1, none⟩ (.slice p2 Ls.length cp2)).setCell ⟨w.heap.size + 1, 0, none⟩ (.int .i64 n)).setCell ⟨w.heap.size + 1, 1, none⟩ (.slice p2 Ls.length cp2)) := (((Abv.refl _ _).setCell (by omega) _ _).setCell (by omega) _ _).setCell (by omega) _ _
  have hB : Below w.heap.size w (((w1.setCell ⟨w.heap.size + 1 + 1, 1, none⟩ (.slice p2 Ls.length cp2)).setCell ⟨w.heap.size + 1, 0, none⟩ (.int .i64 n)).setCell ⟨w.heap.size + 1, 1, none⟩ (.slice p2 Ls.length cp2)) := (((nxt hb0 b1).setCell (p := ⟨w.heap.size + 1 + 1, 1, none⟩) (by show w.heap.size ≤ w.heap.size + 1 + 1; omega) _).setCell (p := ⟨w.heap.size + 1, 0, none⟩) (by show w.heap.size ≤ w.heap.size + 1; omega) _).setCell (p := ⟨w.heap.size + 1, 1, none⟩) (by show w.heap.size ≤ w.heap.size + 1; omega) _
  obtain ⟨fs, hfs⟩ := Tryd.cardU
  refine bodyPost_ret (v := .agg #[.int .i64 n, .slice p2 Ls.length cp2]) (results_two rfl _ _ (w.heap.size + 1) _ _ fs rfl ?_ ?_ hfs Tryd.cardI) rfl ⟨_, rfl, (o1.abv hA).lower hb0.size (by simp), hB⟩
  · simp [World.cell?_setCell_other, World.cell?_setCell_same, go_sem, c10]
  · simp [World.cell?_setCell_other, World.cell?_setCell_same, go_sem, c11]

set_option maxHeartbeats 2000000 in
theorem eqCards_yes (n : Int) (v u : Value) (Ls : List (List Int)) (w : World) (hv : Svv w v Ls) (hu : Svv w u Ls) (hf : Few2 Ls) :
    Calls Tryd.prog 11 #[.agg #[.int .i64 n, v], .agg #[.int .i64 n, u]] w fun e w' => e = .returned (.bool true) ∧ Below w.heap.size w w' := by
  obtain ⟨p, cap, rfl⟩ := svv_form hv
  obtain ⟨q, cap2, rfl⟩ := svv_form hu
  have hb0 : Below w.heap.size w ((w.alloc (.cells #[.int .i64 n, .slice p Ls.length cap] 28)).alloc (.cells #[.int .i64 n, .slice q Ls.length cap2] 28)) := ((Below.refl _ w).alloc (Nat.le_refl _) _).alloc (by simp) _
  have EQ := Lib.hid (eqIntSS_yes _ _ Ls _ (hv.below hb0 (Nat.le_refl _)) (hu.below hb0 (Nat.le_refl _)) hf)
  clear hv hu hf
  go_enter Tryd.func11, Tryd.ntmps11
  go_wp2_with (go_at_call 33; refine EQ.out.mono ?_; rintro e w1 ⟨rfl, b1⟩; have B1 := hb0.trans (b1.mono hb0.size))
  go_ret
  exact ⟨rfl, B1⟩

/-- Two boxes of two cells, carried along. -/
theorem two_at {W W' : World} {a b : Nat} {x0 x1 c0 c1 : Value} (ha : a < W.heap.size) (hb : b < W.heap.size)
    (h0 : W.cell? ⟨a, 0, none⟩ = some x0) (h1 : W.cell? ⟨a, 1, none⟩ = some x1) (k0 : W.cell? ⟨b, 0, none⟩ = some c0) (k1 : W.cell? ⟨b, 1, none⟩ = some c1) (k : Below W.heap.size W W') :
    W'.cell? ⟨a, 0, none⟩ = some x0 ∧ W'.cell? ⟨a, 1, none⟩ = some x1 ∧ W'.cell? ⟨b, 0, none⟩ = some c0 ∧ W'.cell? ⟨b, 1, none⟩ = some c1 ∧ Below W.heap.size W W' :=
  ⟨(k.cell (p := ⟨a, 0, none⟩) ha).trans h0, (k.cell (p := ⟨a, 1, none⟩) ha).trans h1, (k.cell (p := ⟨b, 0, none⟩) hb).trans k0, (k.cell (p := ⟨b, 1, none⟩) hb).trans k1, k⟩
theorem two_bel {W W' : World} (a b : Nat) (x0 x1 c0 c1 : Value)
    (h : W'.cell? ⟨a, 0, none⟩ = some x0 ∧ W'.cell? ⟨a, 1, none⟩ = some x1 ∧ W'.cell? ⟨b, 0, none⟩ = some c0 ∧ W'.cell? ⟨b, 1, none⟩ = some c1 ∧ Below W.heap.size W W') : Below W.heap.size W W' := h.2.2.2.2
end Go.Proofs.YtgojlabkngnkdaaDoor
