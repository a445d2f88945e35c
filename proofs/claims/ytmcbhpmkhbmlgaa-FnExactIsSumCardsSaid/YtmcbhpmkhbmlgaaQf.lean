/-
  A deck of cards in the program: the numbers that answers leave, by contract. Conditions: at most 12 cards, answers for each, at most 128 numbers.
-/
import Derived.Test.YtmcbhpmkhbmlgaaQe
namespace Go.Proofs.Ytmcbhpmkhbmlgaa
open Go.RowKit

theorem set_same3 (w : World) (a b : Obj) (c : Array Value) (t : TypeId) : (((w.alloc a).alloc b).alloc (.cells c t)).setRow (w.heap.size + 1 + 1) c = ((w.alloc a).alloc b).alloc (.cells c t) := by
  have h := set_same (w.alloc a) b c t
  rwa [World.size_alloc] at h
theorem wl_set (ps : List (Int → Bool)) (a : List UInt8) (most : Int) {k : Nat} (hk : k < 128) : (bA (wlK ps a most k)).setIfInBounds k (.bool (decide ((apK (anP ps k) a ps.length : Int) ≤ most))) = bA (wlK ps a most (k + 1)) := by
  rw [bA_set _ hk]
  exact bA_congr fun j _ => (wlK_step ps a most k j).symm

set_option maxHeartbeats 4000000 in
set_option maxRecDepth 100000 in
theorem withLies_any (n most : Int) (v : Value) (ps : List (Int → Bool)) (a : List UInt8) (w : World) (h : Dr w v ps) (hl : ps.length ≤ 12) (h0 : 0 ≤ n) (h1 : n ≤ 128) (hy : YnTo a a.length) (ha : a.length = ps.length) :
    Calls Try.prog 49 #[.agg #[.int .i64 n, v], .string (bstr a), .int .i64 most] w fun e w' => e = .returned (.agg (bA (wlP ps n a most))) ∧ Below w.heap.size w w' := by
  obtain ⟨p, cap, rfl⟩ := h.form
  obtain ⟨m, rfl⟩ : ∃ m : Nat, n = m := ⟨n.toNat, by omega⟩
  have WA := Lib.hid (wlK_all ps a most (n := (m : Int)) (by omega))
  rw [Int.toNat_natCast] at WA
  have H := Lib.hid h
  have HY := Lib.hid hy
  have HA := Lib.hid ha
  obtain ⟨s, es⟩ : ∃ s, bstr a = s := ⟨_, rfl⟩
  have ES := Lib.hid es
  rw [es]
  clear h hy ha es
  go_enter Try.func49, Try.ntmps49
  go_wp2_with (refine wpList_store_row rfl 61 _ _ rfl (w.heap.size + 1 + 1) Try.zeroCells61 rfl rfl 61 Try.zeroCells61 (by exact blk_2 w _ _ _) (by rw [Try.zcS]; exact Try.setI) rfl Try.zcO ?_; rw [set_same3])
  obtain ⟨W, eW⟩ : ∃ W, ((w.alloc (.cells #[.int .i64 (m : Int), .slice p ps.length cap] 64)).alloc (.cells Try.zeroCells61 61)).alloc (.cells Try.zeroCells61 61) = W := ⟨_, rfl⟩
  have hA : W.heap[w.heap.size + 1]? = some (.cells Try.zeroCells61 61 (0, 0)) := by rw [← eW]; exact blk_1 w _ _ _
  have hB : W.heap[w.heap.size + 1 + 1]? = some (.cells (bA (wlK ps a most 0)) 61 (0, 0)) := by
    rw [← eW, show bA (wlK ps a most 0) = Try.zeroCells61 by rw [Try.zcE]; exact bA_congr fun j _ => wlK_zero ps a most j]; exact blk_2 w _ _ _
  have hD : W.heap[w.heap.size]? = some (.cells #[.int .i64 (m : Int), .slice p ps.length cap] 64 (0, 0)) := by rw [← eW]; exact blk_0 w _ _ _
  have hb0 : Below w.heap.size w W := by rw [← eW]; exact (((Below.refl _ _).alloc (Nat.le_refl _) _).alloc (by simp) _).alloc (by simp; omega) _
  have hz0 : w.heap.size + 1 + 1 < W.heap.size := by rw [← eW]; simp
  rw [eW]
  clear eW
  go_loopw [14] (fun i wr => ∃ k : Nat, k ≤ m ∧ i = .int .i64 k ∧ Hid (wr.heap[w.heap.size + 1]? = some (.cells Try.zeroCells61 61 (0, 0))) ∧ Hid (wr.heap[w.heap.size + 1 + 1]? = some (.cells (bA (wlK ps a most k)) 61 (0, 0))) ∧ Hid (wr.heap[w.heap.size]? = some (.cells #[.int .i64 (m : Int), .slice p ps.length cap] 64 (0, 0))) ∧ Below w.heap.size w wr ∧ w.heap.size + 1 + 1 < wr.heap.size) (fun i _ => m - (intOf i).toNat)
  case atStart => exact ⟨0, Nat.zero_le _, rfl, Lib.hid hA, Lib.hid hB, Lib.hid hD, hb0, hz0⟩
  case round =>
    clear hA hB hb0 hD hz0
    obtain ⟨k, hk, rfl, hA, hB, hD, hb, hz⟩ := hrel
    by_cases hlt : k < m
    · have hk0 : (0 : Int) ≤ (k : Int) := by omega
      have hk1 : (k : Int) < 128 := by omega
      obtain ⟨c0, c1, -, -⟩ := cells2_of hD.out
      have LF := Lib.hid (liesFor_any (m : Int) (k : Int) (.slice p ps.length cap) ps a wr (H.out.below hb (Nat.le_refl _)) hl hk0 (by omega) HY.out HA.out)
      rw [ES.out] at LF
      have WS := Lib.hid (wl_set ps a most (k := k) (by omega))
      obtain ⟨A, eA⟩ : ∃ A, apK (anP ps (k : Int)) a ps.length = A := ⟨_, rfl⟩
      obtain ⟨L, eL⟩ : ∃ L, laK (anP ps (k : Int)) a ps.length = L := ⟨_, rfl⟩
      rw [eA] at LF WS
      rw [eL] at LF
      clear eA eL
      go_wp2_with (go_at_call 53; refine LF.out.mono ?_; rintro e w2 ⟨rfl, b2⟩; have B2 := Lib.hid b2; have h2 := (b2.block (w.heap.size + 1 + 1) hz).trans hB.out; have hold : w2.cell? ⟨w.heap.size + 1 + 1, k, none⟩ = some (.bool (wlK ps a most k k)) := (by rw [cell_of_row _ _ _ _ _ _ h2]; exact bA_at _ (by omega)); have hfr : w2.frozen? ⟨w.heap.size + 1 + 1, k, none⟩ = false := frozen_of_row _ _ _ _ _ h2; have H2 := Lib.hid h2; clear b2 h2)
      have b2 := B2.out
      have hz2 := b2.size
      have n2 := heap_setCell_same w2 (w.heap.size + 1 + 1) k _ _ (.bool (decide ((A : Int) ≤ most))) H2.out
      rw [WS.out] at n2
      have n1 : (w2.setCell ⟨w.heap.size + 1 + 1, k, none⟩ (.bool (decide ((A : Int) ≤ most)))).heap[w.heap.size + 1]? = _ := (heap_setCell_other _ _ _ _ (by show w.heap.size + 1 ≠ w.heap.size + 1 + 1; omega)).trans ((b2.block _ (by omega)).trans hA.out)
      have n0 : (w2.setCell ⟨w.heap.size + 1 + 1, k, none⟩ (.bool (decide ((A : Int) ≤ most)))).heap[w.heap.size]? = _ := (heap_setCell_other _ _ _ _ (by show w.heap.size ≠ w.heap.size + 1 + 1; omega)).trans ((b2.block _ (by omega)).trans hD.out)
      have nb : Below w.heap.size w (w2.setCell ⟨w.heap.size + 1 + 1, k, none⟩ (.bool (decide ((A : Int) ≤ most)))) := (nxt hb b2).setCell (p := ⟨w.heap.size + 1 + 1, k, none⟩) (by show w.heap.size ≤ w.heap.size + 1 + 1; omega) _
      have N2 := Lib.hid n2
      have N1 := Lib.hid n1
      have N0 := Lib.hid n0
      clear n2 n1 n0 b2 hold hfr
      go_roundw
      case rel => exact ⟨k + 1, by omega, by go_num, N1, N2, N0, nb, by simp; omega⟩
      case measure => simp only [intOf]; omega
    · have hke : k = m := by omega
      subst hke
      rw [WA.out] at hB
      have HS : Hid ((bA (wlP ps (k : Int) a most)).size = 128) := Lib.hid (bA_size _)
      have HO : Hid ((bA (wlP ps (k : Int) a most)).all (·.oneCell') = true) := Lib.hid (bA_one _)
      obtain ⟨C, eC⟩ : ∃ C, bA (wlP ps (k : Int) a most) = C := ⟨_, rfl⟩
      rw [eC] at hB HS HO
      have EC := Lib.hid eC
      clear eC
      go_wp2_with (first
        | (refine wpList_load_row rfl 61 _ rfl (w.heap.size + 1 + 1) rfl 61 C (0, 0) _ (by exact hB.out) Try.setU rfl (by rw [HS.out]; exact Try.setI) ?_)
        | (refine wpList_store_row rfl 61 _ _ rfl (w.heap.size + 1) C rfl rfl 61 Try.zeroCells61 (by exact hA.out) (by rw [HS.out]; exact Try.setI) (by rw [HS.out]; exact Try.zcS) HO.out ?_))
      have hg2 := setRow_heap wr (w.heap.size + 1) _ C _ _ hA.out
      refine bodyPost_ret (v := .agg C) ?_ rfl ⟨by rw [EC.out], below_setRow hb (by omega) C⟩
      exact results_cell_row rfl _ _ (w.heap.size + 1) _ C (0, 0) _ rfl hg2 Try.setU rfl (by rw [HS.out]; exact Try.setI)
end Go.Proofs.Ytmcbhpmkhbmlgaa
