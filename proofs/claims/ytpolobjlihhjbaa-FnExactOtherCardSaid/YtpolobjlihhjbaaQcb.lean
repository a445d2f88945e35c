/-
  A deck without one of its cards, by contract. Condition: the card is in the deck; at most 12 cards.
-/
import Derived.Test.YtpolobjlihhjbaaQca
import Derived.Test.YtpolobjlihhjbaaQd
import Derived.Test.YtpolobjlihhjbaaQg
import Derived.Test.YtpolobjlihhjbaaQj
namespace Go.Proofs.Ytpolobjlihhjbaa
open Go.RowKit

theorem Dk.cap {w : World} {B : Nat} {v : Value} {ps : List (Int → Bool)} (h : Dk w B v ps) (h0 : 0 < ps.length) : ∃ g cap, v = .slice (some ⟨g, 0, none⟩) ps.length cap ∧ ps.length ≤ cap ∧ cap ≤ maxLen ∧ g < w.heap.size ∧ ∀ k q, ps[k]? = some q → ∀ j, j < 128 → w.cell? ⟨g, k * 128 + j, none⟩ = some (.bool (q (j : Int))) := by
  obtain ⟨p, c, e, hx⟩ := h.dr
  rcases id h.2 with ⟨rfl, e⟩ | ⟨g, cap, cur, rfl, hB, hh, h1, h2, _⟩
  · omega
  · simp only [Value.slice.injEq, true_and] at e
    obtain ⟨rfl, rfl⟩ := e
    obtain ⟨g', o, e, hg, hc⟩ := hx h0
    simp only [Option.some.injEq, Addr.mk.injEq, and_true] at e
    obtain ⟨rfl, rfl⟩ := e
    exact ⟨g, cap, rfl, h1, h2, hg, fun k q hq j hj => by have := hc k q hq j hj; rwa [Nat.zero_add] at this⟩
theorem crd_take {w : World} {g k : Nat} {c : Nat} {ps : List (Int → Bool)} (hk : k ≤ ps.length) (hg : g < w.heap.size) (hc : ∀ k q, ps[k]? = some q → ∀ j, j < 128 → w.cell? ⟨g, k * 128 + j, none⟩ = some (.bool (q (j : Int)))) : Crd w (.slice (some ⟨g, 0, none⟩) k c) (ps.take k) := by
  refine .inr ⟨g, 0, c, by rw [List.length_take, Nat.min_eq_left hk], hg, fun i q hq j hj => ?_⟩
  rw [Nat.zero_add]
  refine hc i q ?_ j hj
  rw [List.getElem?_take] at hq
  split at hq
  · exact hq
  · cases hq
theorem crd_drop {w : World} {g k l : Nat} {c : Nat} {ps : List (Int → Bool)} (hl : l = ps.length - k) (hg : g < w.heap.size) (hc : ∀ k q, ps[k]? = some q → ∀ j, j < 128 → w.cell? ⟨g, k * 128 + j, none⟩ = some (.bool (q (j : Int)))) : Crd w (.slice (some ⟨g, k * 128, none⟩) l c) (ps.drop k) := by
  refine .inr ⟨g, k * 128, c, by rw [List.length_drop, hl], hg, fun i q hq j hj => ?_⟩
  rw [List.getElem?_drop] at hq
  have := hc (k + i) q hq j hj
  rwa [show (k + i) * 128 + j = k * 128 + (i * 128 + j) by omega] at this
theorem crd_dropC {w : World} {g k l cap : Nat} {c : Nat} {ps : List (Int → Bool)} (hl : l = ps.length - k) (hcap : ps.length ≤ cap) (hg : g < w.heap.size) (hc : ∀ k q, ps[k]? = some q → ∀ j, j < 128 → w.cell? ⟨g, k * 128 + j, none⟩ = some (.bool (q (j : Int)))) : Crd w (.slice (if cap = k then some ⟨g, 0, none⟩ else some ⟨g, k * 128, none⟩) l c) (ps.drop k) := by
  split
  · have e : ps.drop k = [] := List.drop_eq_nil_of_le (by omega)
    have e2 : l = 0 := by omega
    rw [e, e2]
    exact .inr ⟨g, 0, c, rfl, hg, fun i q hq j hj => by simp at hq⟩
  · exact crd_drop hl hg hc
theorem concatD2_any (b : Nat) (v1 v2 : Value) (x1 x2 : List (Int → Bool)) (w : World) (hh : w.heap[b]? = some (.cells #[v1, v2] 66)) (h1 : Crd w v1 x1) (h2 : Crd w v2 x2)
    (l1 : x1.length ≤ 1024) (l2 : x2.length ≤ 1024) :
    Calls Try.prog 105 #[.slice (some ⟨b, 0, none⟩) 2 2] w fun e w' => ∃ u, e = .returned u ∧ Dk w' w.heap.size u (x1 ++ x2) ∧ Below w.heap.size w w' := by
  refine (concatD_any b [(v1, x1), (v2, x2)] w (Array.getElem?_eq_some_iff.1 hh).1 (by simp) ?_ ?_ ?_).mono ?_
  · intro j q hq
    match j, hq with
    | 0, hq => simp at hq; subst hq; simp [World.cell?, hh]
    | 1, hq => simp at hq; subst hq; simp [World.cell?, hh]
  · intro j q hq
    match j, hq with
    | 0, hq => simp at hq; subst hq; exact h1
    | 1, hq => simp at hq; subst hq; exact h2
  · intro j q hq
    match j, hq with
    | 0, hq => simp at hq; subst hq; exact l1
    | 1, hq => simp at hq; subst hq; exact l2
  · rintro e w' ⟨u, he, ho, hb⟩
    exact ⟨u, he, by simpa [catD] using ho, hb⟩
theorem keep2 {w W' : World} {a B : Nat} {x0 x1 : Value} (ha : B ≤ a) (h : W'.cell? ⟨a, 0, none⟩ = some x0 ∧ W'.cell? ⟨a, 1, none⟩ = some x1 ∧ Below B w W') (u v : Value) :
    (((W'.setCell ⟨a + 1, 0, none⟩ u).setCell ⟨a + 1, 1, none⟩ v).cell? ⟨a, 0, none⟩ = some x0) ∧ (((W'.setCell ⟨a + 1, 0, none⟩ u).setCell ⟨a + 1, 1, none⟩ v).cell? ⟨a, 1, none⟩ = some x1) ∧ Below B w ((W'.setCell ⟨a + 1, 0, none⟩ u).setCell ⟨a + 1, 1, none⟩ v) := by
  refine ⟨?_, ?_, (h.2.2.setCell (p := ⟨a + 1, 0, none⟩) (by show B ≤ a + 1; omega) _).setCell (p := ⟨a + 1, 1, none⟩) (by show B ≤ a + 1; omega) _⟩
  · rw [World.cell?_setCell_other _ _ _ _ (by simp), World.cell?_setCell_other _ _ _ _ (by simp)]; exact h.1
  · rw [World.cell?_setCell_other _ _ _ _ (by simp), World.cell?_setCell_other _ _ _ _ (by simp)]; exact h.2.1

set_option maxHeartbeats 8000000 in
set_option maxRecDepth 100000 in
theorem without_any (n : Int) (v : Value) (ps : List (Int → Bool)) (k B : Nat) (w : World) (h : Dk w B v ps) (hk : k < ps.length) (hl : ps.length ≤ 12) :
    Calls Try.prog 94 #[.agg #[.int .i64 n, v], .int .i64 k] w fun e w' => ∃ u, e = .returned (.agg #[.int .i64 n, u]) ∧ Dk w' w.heap.size u (ps.eraseIdx k) ∧ Below w.heap.size w w' := by
  obtain ⟨g, cap, rfl, hcl, hcm, hg, hc⟩ := h.cap (by omega)
  obtain ⟨W, eW⟩ : ∃ W, (w.alloc (.cells #[.int .i64 n, .slice (some ⟨g, 0, none⟩) ps.length cap] 68)).alloc (.cells #[.int .i64 0, .slice none 0 0] 68) = W := ⟨_, rfl⟩
  have hb0 : Below w.heap.size w W := by rw [← eW]; exact ((Below.refl _ w).alloc (Nat.le_refl _) _).alloc (by simp) _
  have HZ : Hid (W.heap.size = w.heap.size + 1 + 1) := Lib.hid (by rw [← eW]; simp)
  have k0 : W.heap[w.heap.size]? = some (.cells #[.int .i64 n, .slice (some ⟨g, 0, none⟩) ps.length cap] 68 (0, 0)) := by rw [← eW]; exact blk_a _ _ _
  have k1 : W.heap[w.heap.size + 1]? = some (.cells #[.int .i64 0, .slice none 0 0] 68 (0, 0)) := by rw [← eW]; exact blk_b _ _ _
  have hcap : cap ≤ 9223372036854775807 := by unfold maxLen at hcm; exact hcm
  have EE : Hid (ps.take k ++ ps.drop (k + 1) = ps.eraseIdx k) := Lib.hid (List.eraseIdx_eq_take_drop_succ _ _).symm
  have CT := Lib.hid (fun (W' : World) (c : Nat) (b : Below w.heap.size w W') => crd_take (c := c) (Nat.le_of_lt hk) (Nat.lt_of_lt_of_le hg b.size) (fun i q hq j hj => (b.cell (p := ⟨g, i * 128 + j, none⟩) hg).trans (hc i q hq j hj)))
  have CD := Lib.hid (fun (W' : World) (c l : Nat) (e : l = ps.length - (k + 1)) (b : Below w.heap.size w W') => crd_dropC (c := c) (k := k + 1) e hcl (Nat.lt_of_lt_of_le hg b.size) (fun i q hq j hj => (b.cell (p := ⟨g, i * 128 + j, none⟩) hg).trans (hc i q hq j hj)))
  obtain ⟨pt, ite⟩ : ∃ pt, (if cap = k + 1 then some (⟨g, 0, none⟩ : Addr) else some ⟨g, (k + 1) * 128, none⟩) = pt := ⟨_, rfl⟩
  rw [ite] at CD
  have L1 : Hid ((ps.take k).length ≤ 1024) := Lib.hid (by simp; omega)
  have L2 : Hid ((ps.drop (k + 1)).length ≤ 1024) := Lib.hid (by simp; omega)
  obtain ⟨x1, ex1⟩ : ∃ x, ps.take k = x := ⟨_, rfl⟩
  obtain ⟨x2, ex2⟩ : ∃ x, ps.drop (k + 1) = x := ⟨_, rfl⟩
  rw [ex1] at CT L1 EE
  rw [ex2] at CD L2 EE
  have SA := fun (W' : World) (h : Below W.heap.size W W') => Lib.hid (show W'.cell? ⟨w.heap.size, 0, none⟩ = some (.int .i64 n) ∧ W'.cell? ⟨w.heap.size, 1, none⟩ = some (.slice (some ⟨g, 0, none⟩) ps.length cap) ∧ Below w.heap.size w W' from ⟨(one_at (by have := HZ.out; omega) (cells2_of k0).1 (cells2_of k0).2.1 h).1, (one_at (by have := HZ.out; omega) (cells2_of k0).1 (cells2_of k0).2.1 h).2.1, nxt hb0 h⟩)
  have K1 := Lib.hid k1
  have HB := Lib.hid hb0
  have b1 : (0 : Int) ≤ (k : Int) := by omega
  have b2 : (k : Int) ≤ (cap : Int) := by omega
  have b3 : (0 : Int) ≤ (k : Int) + 1 := by omega
  have b4 : (k : Int) + 1 ≤ (ps.length : Int) := by omega
  have b5 : (ps.length : Int) ≤ (cap : Int) := by omega
  have wk : IntKind.i64.wrap ((k : Int) + 1) = (k : Int) + 1 := by rw [IntKind.wrap_i64]; omega
  clear h hc ex1 ex2 hg k0 k1 hb0 hcm
  go_enter Try.func94, Try.ntmps94
  go_upto_region 1 with (fail)
  go_region_held3 (fun w' => w'.cell? ⟨w.heap.size, 0, none⟩ = some (.int .i64 n) ∧ w'.cell? ⟨w.heap.size, 1, none⟩ = some (.slice (some ⟨g, 0, none⟩) ps.length cap) ∧ Below w.heap.size w w') ((first | assumption | exact (SA _ (below_drewN (Below.refl _ _) 1)).out | exact (SA _ (((Below.refl _ _).alloc (Nat.le_refl _) _).drew)).out | exact (SA _ ((below_drewN (Below.refl _ _) 1).alloc (Nat.le_refl _) _)).out | exact SB.out | exact keep2 (Nat.le_refl _) SB.out _ _)) ((go_at_call 105; refine (concatD2_any W.heap.size (.slice (some ⟨g, 0, none⟩) k cap) (.slice pt (ps.length - (k + 1)) (cap - (k + 1))) x1 x2 _ (by exact heap_alloc_new W _) (CT.out _ _ (by first | exact nxt HB.out ((Below.refl _ W).alloc (Nat.le_refl _) _) | exact nxt HB.out (((Below.refl _ W).alloc (Nat.le_refl _) _).drew))) (CD.out _ _ _ rfl (by first | exact nxt HB.out ((Below.refl _ W).alloc (Nat.le_refl _) _) | exact nxt HB.out (((Below.refl _ W).alloc (Nat.le_refl _) _).drew))) L1.out L2.out).mono ?_; rintro e w6 ⟨u, rfl, o6, b6⟩; have B6 : Below W.heap.size W w6 := Below.trans (((Below.refl _ W).alloc (Nat.le_refl _) _).drew) (b6.mono (by simp)); have SB := SA _ B6; obtain ⟨up, uc, rfl⟩ := o6.form; have O6 := Lib.hid o6; have K6 := Lib.hid ((B6.block (w.heap.size + 1) (by have := HZ.out; omega)).trans K1.out); obtain ⟨c10, c11, f10, f11⟩ := cells2_of K6.out; clear o6 b6))
  all_goals
    try go_wp2
    obtain ⟨fs, hfs⟩ := Try.deckU
    have O := O6.out
    rw [List.length_append] at O
    have hz := HZ.out
    have hO : Dk w6 (w.heap.size + 1 + 1) (.slice up (x1.length + x2.length) uc) (x1 ++ x2) := Dk.mono O (by simp; omega)
    rw [EE.out] at hO
    refine bodyPost_ret (v := .agg #[.int .i64 n, .slice up (x1.length + x2.length) uc]) (results_two rfl _ _ (w.heap.size + 1) _ _ fs rfl ?_ ?_ hfs Try.deckI) rfl ?_
    rotate_left 2
    · exact ⟨_, rfl, Dk.mono (Dk.abv hO (((Abv.refl _ _).setCell (g := w.heap.size + 1) (by omega) 0 _).setCell (g := w.heap.size + 1) (by omega) 1 _)) (by omega), (SB.out.2.2.setCell (p := ⟨w.heap.size + 1, 0, none⟩) (by show w.heap.size ≤ w.heap.size + 1; omega) _).setCell (p := ⟨w.heap.size + 1, 1, none⟩) (by show w.heap.size ≤ w.heap.size + 1; omega) _⟩
    · simp [World.cell?_setCell_other, World.cell?_setCell_same, go_sem, c10]
    · simp [World.cell?_setCell_other, World.cell?_setCell_same, go_sem, c11]
end Go.Proofs.Ytpolobjlihhjbaa
