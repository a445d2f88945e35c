/-
  DropClue in the model and in the program, by their contracts. Condition: at most 2^40 clues.
-/
import Derived.Test.YtphjiicdodkfbaaYwo
namespace Go.Proofs.Ytphjiicdodkfbaa
open Go.RowKit

def dcB (cs : List Cl) (k : Int) : Bool := pzB cs && decide (0 ≤ k ∧ k < cs.length)
def dcR (cs : List Cl) (k : Int) : List Cl := if dcB cs k = true then woL cs k.toNat else []
theorem dc_no {cs : List Cl} {k : Int} (h : pzB cs = false ∨ ¬ (0 ≤ k ∧ k < cs.length)) : dcB cs k = false := by
  unfold dcB
  rcases h with h | h
  · rw [h]; rfl
  · rw [decide_eq_false h, Bool.and_false]
theorem dr_no {cs : List Cl} {k : Int} (h : pzB cs = false ∨ ¬ (0 ≤ k ∧ k < cs.length)) : dcR cs k = [] := by
  unfold dcR; rw [dc_no h]; rfl
theorem dc_yes {cs : List Cl} {j : Nat} (h : pzB cs = true) (hj : j < cs.length) : dcB cs (j : Int) = true := by
  unfold dcB; rw [h, decide_eq_true ⟨by omega, by omega⟩]; rfl
theorem dr_yes {cs : List Cl} {j : Nat} (h : pzB cs = true) (hj : j < cs.length) : dcR cs (j : Int) = woL cs j := by
  unfold dcR; rw [dc_yes h hj]; rfl
theorem dc_len (cs : List Cl) (k : Int) : (dcR cs k).length ≤ 6 := by
  unfold dcR
  split
  · next h =>
    unfold dcB at h
    simp only [Bool.and_eq_true] at h
    have := (pzB_iff.1 h.1).1
    unfold woL
    rw [List.length_append, List.length_take, List.length_drop]
    omega
  · simp

set_option maxHeartbeats 4000000 in
theorem specDropClue_any (v : Value) (cs : List Cl) (k : Int) (w : World) (h : Cv w v cs) (hl : cs.length ≤ 1099511627776) :
    Calls Try.prog 51 #[.agg #[v], .int .i64 k] w fun e w' => ∃ u, e = .returned (.tuple #[.agg #[u], .bool (dcB cs k)]) ∧ Ck w' w.heap.size u (dcR cs k) ∧ Below w.heap.size w w' := by
  obtain ⟨p, cap, rfl⟩ := h.shape
  obtain ⟨W, eW⟩ : ∃ W, (w.alloc (.cells #[.slice p cs.length cap] 39)).alloc (.cells #[.slice none 0 0] 39) = W := ⟨_, rfl⟩
  have hb0 : Below w.heap.size w W := by rw [← eW]; exact ((Below.refl _ _).alloc (Nat.le_refl _) _).alloc (by simp) _
  have ZW : W.heap.size = w.heap.size + 1 + 1 := by rw [← eW]; simp
  have HA := Lib.hid (show W.heap[w.heap.size]? = some (.cells #[.slice p cs.length cap] 39 (0, 0)) by rw [← eW]; exact blk_a w _ _)
  have HR := Lib.hid (show W.heap[w.heap.size + 1]? = some (.cells #[.slice none 0 0] 39 (0, 0)) by rw [← eW]; exact blk_b w _ _)
  have HS := Lib.hid (h.below hb0 (Nat.le_refl _))
  have HL := Lib.hid hl
  clear h hl
  have PG := Lib.hid (pzGood_any _ cs W HS.out HL.out)
  cases hB : pzB cs
  · rw [hB] at PG
    rw [dc_no (.inl hB), dr_no (.inl hB)]
    clear hB
    obtain ⟨cA, -⟩ := cells1_of HA.out
    go_enter Try.func51, Try.ntmps51
    go_wp2_with fail
    clear eW cA
    refine PG.out.mono ?_
    rintro e w1 ⟨rfl, t⟩
    clear PG
    obtain ⟨cA, -⟩ := cells1_of ((t.block _ (by omega)).trans HA.out)
    obtain ⟨cR, fR⟩ := cells1_of ((t.block _ (by omega)).trans HR.out)
    go_wp2_with fail
    exact bodyPost_ret (v := .tuple #[.agg #[.slice none 0 0], .bool false]) (by simp [results, Try.results51, go_sem, cR]) rfl ⟨_, rfl, Ck.nil _ _, (nxt hb0 t).setCell (Nat.le_succ _) _⟩
  · rw [hB] at PG
    have h6 := (pzB_iff.1 hB).1
    have hw1 : IntKind.i64.wrap ((cs.length : Int) - 1) = (cs.length : Int) - 1 := IntWalk.i64_in _ (by omega)
    by_cases hk : 0 ≤ k ∧ k < cs.length
    · obtain ⟨j, rfl⟩ : ∃ j : Nat, k = (j : Int) := ⟨k.toNat, by omega⟩
      have hj : j < cs.length := by omega
      have hin : inB (j : Int) 0 ((cs.length : Int) - 1) = true := inB_iff.2 ⟨by omega, by omega⟩
      rw [dc_yes hB hj, dr_yes hB hj]
      have WO := Lib.hid (fun (W' : World) (hb : Below W.heap.size W W') => pzWithout_any p cap j cs W' (HS.out.below hb (Nat.le_refl _)) hj (by omega))
      have hj0 : (0 : Int) ≤ (j : Int) := by omega
      have hj1 : ¬ (j : Int) < 0 := by omega
      have hj2 : decide ((cs.length : Int) ≤ (j : Int)) = false := by simp; omega
      have hj3 : ¬ (cs.length : Int) ≤ (j : Int) := by omega
      clear hB hk
      obtain ⟨cA, -⟩ := cells1_of HA.out
      go_enter Try.func51, Try.ntmps51
      go_wp2_with fail
      clear eW cA
      refine PG.out.mono ?_
      rintro e w1 ⟨rfl, t⟩
      clear PG
      obtain ⟨cA, -⟩ := cells1_of ((t.block _ (by omega)).trans HA.out)
      obtain ⟨cR, fR⟩ := cells1_of ((t.block _ (by omega)).trans HR.out)
      go_wp2_with fail
      refine (l1In_any _ _ _ _).mono ?_
      rintro e wl ⟨rfl, rfl⟩
      rw [hin]
      go_wp2_with fail
      refine (WO.out _ t).mono ?_
      rintro e w3 ⟨u3, rfl, o3, b3⟩
      have t3 := nxt t b3
      obtain ⟨p3, c3, rfl⟩ := o3.shape
      clear cA cR fR
      obtain ⟨cR, fR⟩ := cells1_of ((t3.block _ (by omega)).trans HR.out)
      have O3 := Lib.hid o3
      have HB3 := Lib.hid (nxt hb0 t3)
      have ZT := t.size
      clear o3 b3 t3
      go_wp2_with fail
      exact bodyPost_ret (v := .tuple #[.agg #[.slice p3 (woL cs j).length c3], .bool true]) (by simp [results, Try.results51, go_sem, cR]) rfl ⟨_, rfl, (Ck.abv O3.out ((Abv.refl _ _).setCell (by omega) _ _)).mono (by omega), HB3.out.setCell (Nat.le_succ _) _⟩
    · have hin : inB k 0 ((cs.length : Int) - 1) = false := by
        cases e : inB k 0 ((cs.length : Int) - 1)
        · rfl
        · exact (hk (by have := inB_iff.1 e; omega)).elim
      rw [dc_no (.inr hk), dr_no (.inr hk)]
      clear hB
      obtain ⟨cA, -⟩ := cells1_of HA.out
      go_enter Try.func51, Try.ntmps51
      go_wp2_with fail
      clear eW cA
      refine PG.out.mono ?_
      rintro e w1 ⟨rfl, t⟩
      clear PG
      obtain ⟨cA, -⟩ := cells1_of ((t.block _ (by omega)).trans HA.out)
      obtain ⟨cR, fR⟩ := cells1_of ((t.block _ (by omega)).trans HR.out)
      go_wp2_with fail
      refine (l1In_any _ _ _ _).mono ?_
      rintro e wl ⟨rfl, rfl⟩
      rw [hin]
      go_wp2_with fail
      exact bodyPost_ret (v := .tuple #[.agg #[.slice none 0 0], .bool false]) (by simp [results, Try.results51, go_sem, cR]) rfl ⟨_, rfl, Ck.nil _ _, (nxt hb0 t).setCell (Nat.le_succ _) _⟩

set_option maxHeartbeats 4000000 in
theorem implDropClue_any (v : Value) (cs : List Cl) (k : Int) (w : World) (h : Cv w v cs) (hl : cs.length ≤ 1099511627776) :
    Calls Try.prog 52 #[.agg #[v], .int .i64 k] w fun e w' => ∃ u, e = .returned (.tuple #[.agg #[u], .bool (dcB cs k)]) ∧ Ck w' w.heap.size u (dcR cs k) ∧ Below w.heap.size w w' := by
  obtain ⟨p, cap, rfl⟩ := h.shape
  obtain ⟨W, eW⟩ : ∃ W, (w.alloc (.cells #[.slice p cs.length cap] 39)).alloc (.cells #[.slice none 0 0] 39) = W := ⟨_, rfl⟩
  have hb0 : Below w.heap.size w W := by rw [← eW]; exact ((Below.refl _ _).alloc (Nat.le_refl _) _).alloc (by simp) _
  have ZW : W.heap.size = w.heap.size + 1 + 1 := by rw [← eW]; simp
  have HA := Lib.hid (show W.heap[w.heap.size]? = some (.cells #[.slice p cs.length cap] 39 (0, 0)) by rw [← eW]; exact blk_a w _ _)
  have HR := Lib.hid (show W.heap[w.heap.size + 1]? = some (.cells #[.slice none 0 0] 39 (0, 0)) by rw [← eW]; exact blk_b w _ _)
  have HS := Lib.hid (h.below hb0 (Nat.le_refl _))
  have HL := Lib.hid hl
  clear h hl
  have PG := Lib.hid (implIsPuzzle_any _ cs W HS.out HL.out)
  cases hB : pzB cs
  · rw [hB] at PG
    rw [dc_no (.inl hB), dr_no (.inl hB)]
    clear hB
    obtain ⟨cA, -⟩ := cells1_of HA.out
    go_enter Try.func52, Try.ntmps52
    go_wp2_with fail
    clear eW cA
    refine PG.out.mono ?_
    rintro e w1 ⟨rfl, t⟩
    clear PG
    obtain ⟨cA, -⟩ := cells1_of ((t.block _ (by omega)).trans HA.out)
    obtain ⟨cR, fR⟩ := cells1_of ((t.block _ (by omega)).trans HR.out)
    go_wp2_with fail
    exact bodyPost_ret (v := .tuple #[.agg #[.slice none 0 0], .bool false]) (by simp [results, Try.results52, go_sem, cR]) rfl ⟨_, rfl, Ck.nil _ _, (nxt hb0 t).setCell (Nat.le_succ _) _⟩
  · rw [hB] at PG
    have h6 := (pzB_iff.1 hB).1
    have hw1 : IntKind.i64.wrap ((cs.length : Int) - 1) = (cs.length : Int) - 1 := IntWalk.i64_in _ (by omega)
    by_cases hk : 0 ≤ k ∧ k < cs.length
    · obtain ⟨j, rfl⟩ : ∃ j : Nat, k = (j : Int) := ⟨k.toNat, by omega⟩
      have hj : j < cs.length := by omega
      have hin : inB (j : Int) 0 ((cs.length : Int) - 1) = true := inB_iff.2 ⟨by omega, by omega⟩
      rw [dc_yes hB hj, dr_yes hB hj]
      have WO := Lib.hid (fun (W' : World) (hb : Below W.heap.size W W') => withoutClue_any p cap j cs W' (HS.out.below hb (Nat.le_refl _)) hj (by omega))
      have hj0 : (0 : Int) ≤ (j : Int) := by omega
      have hj1 : ¬ (j : Int) < 0 := by omega
      have hj2 : decide ((cs.length : Int) ≤ (j : Int)) = false := by simp; omega
      have hj3 : ¬ (cs.length : Int) ≤ (j : Int) := by omega
      clear hB hk
      obtain ⟨cA, -⟩ := cells1_of HA.out
      go_enter Try.func52, Try.ntmps52
      go_wp2_with fail
      clear eW cA
      refine PG.out.mono ?_
      rintro e w1 ⟨rfl, t⟩
      clear PG
      obtain ⟨cA, -⟩ := cells1_of ((t.block _ (by omega)).trans HA.out)
      obtain ⟨cR, fR⟩ := cells1_of ((t.block _ (by omega)).trans HR.out)
      go_wp2_with fail
      refine (WO.out _ t).mono ?_
      rintro e w3 ⟨u3, rfl, o3, b3⟩
      have t3 := nxt t b3
      obtain ⟨p3, c3, rfl⟩ := o3.shape
      clear cA cR fR
      obtain ⟨cR, fR⟩ := cells1_of ((t3.block _ (by omega)).trans HR.out)
      have O3 := Lib.hid o3
      have HB3 := Lib.hid (nxt hb0 t3)
      have ZT := t.size
      clear o3 b3 t3
      go_wp2_with fail
      exact bodyPost_ret (v := .tuple #[.agg #[.slice p3 (woL cs j).length c3], .bool true]) (by simp [results, Try.results52, go_sem, cR]) rfl ⟨_, rfl, (Ck.abv O3.out ((Abv.refl _ _).setCell (by omega) _ _)).mono (by omega), HB3.out.setCell (Nat.le_succ _) _⟩
    · have hin : inB k 0 ((cs.length : Int) - 1) = false := by
        cases e : inB k 0 ((cs.length : Int) - 1)
        · rfl
        · exact (hk (by have := inB_iff.1 e; omega)).elim
      rw [dc_no (.inr hk), dr_no (.inr hk)]
      clear hB
      by_cases hn : k < 0
      · clear hk hin
        obtain ⟨cA, -⟩ := cells1_of HA.out
        go_enter Try.func52, Try.ntmps52
        go_wp2_with fail
        clear eW cA
        refine PG.out.mono ?_
        rintro e w1 ⟨rfl, t⟩
        clear PG
        obtain ⟨cA, -⟩ := cells1_of ((t.block _ (by omega)).trans HA.out)
        obtain ⟨cR, fR⟩ := cells1_of ((t.block _ (by omega)).trans HR.out)
        go_wp2_with fail
        exact bodyPost_ret (v := .tuple #[.agg #[.slice none 0 0], .bool false]) (by simp [results, Try.results52, go_sem, cR]) rfl ⟨_, rfl, Ck.nil _ _, (nxt hb0 t).setCell (Nat.le_succ _) _⟩
      · have hge : decide ((cs.length : Int) ≤ k) = true := by simp; omega
        have hge2 : (cs.length : Int) ≤ k := by omega
        clear hk hin
        obtain ⟨cA, -⟩ := cells1_of HA.out
        go_enter Try.func52, Try.ntmps52
        go_wp2_with fail
        clear eW cA
        refine PG.out.mono ?_
        rintro e w1 ⟨rfl, t⟩
        clear PG
        obtain ⟨cA, -⟩ := cells1_of ((t.block _ (by omega)).trans HA.out)
        obtain ⟨cR, fR⟩ := cells1_of ((t.block _ (by omega)).trans HR.out)
        go_wp2_with fail
        exact bodyPost_ret (v := .tuple #[.agg #[.slice none 0 0], .bool false]) (by simp [results, Try.results52, go_sem, cR]) rfl ⟨_, rfl, Ck.nil _ _, (nxt hb0 t).setCell (Nat.le_succ _) _⟩
end Go.Proofs.Ytphjiicdodkfbaa
