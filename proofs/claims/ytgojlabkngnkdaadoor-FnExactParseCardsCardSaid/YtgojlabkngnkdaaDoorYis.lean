/-
  What a puzzle is and what hidden pieces are, in the model and in the program, by their contracts. Condition: at most 2^40 clues or pieces.
-/
import Derived.Test.YtgojlabkngnkdaaDoorYac
import Derived.Test.YtgojlabkngnkdaaDoorYmx
namespace Go.Proofs.YtgojlabkngnkdaaDoor
open Go.RowKit

set_option maxHeartbeats 4000000 in
theorem pzGood_any (v : Value) (cs : List Cl) (w : World) (h : Cv w v cs) (hl : cs.length ≤ 1099511627776) :
    Calls Tryd.prog 41 #[.agg #[v]] w fun e w' => e = .returned (.bool (pzB cs)) ∧ Below w.heap.size w w' := by
  obtain ⟨p, cap, rfl, _, _, hx⟩ := h
  have HX := Lib.hid hx
  clear hx
  by_cases h6 : cs.length ≤ 6
  · have d : decide (6 < (cs.length : Int)) = false := by simp; omega
    have e0 : pzB cs = cs.all clB := by simp [pzB, h6]
    rw [e0]
    clear e0
    have HC := Lib.hid (cells1_of (heap_alloc_new w (.cells #[.slice p cs.length cap] 43)))
    go_enter Tryd.func41, Tryd.ntmps41
    go_wp2
    go_loopw [12] (fun i wr => ∃ k : Nat, k ≤ cs.length ∧ i = .int .i64 k ∧ Hid ((cs.take k).all clB = true) ∧ Below w.heap.size w wr) (fun i _ => cs.length - (intOf i).toNat)
    case atStart => exact ⟨0, Nat.zero_le _, rfl, Lib.hid (by simp), (Below.refl _ _).alloc (Nat.le_refl _) _⟩
    case round =>
      obtain ⟨k, hk, rfl, HA, hb⟩ := hrel
      by_cases hlt : k < cs.length
      · obtain ⟨b, off, rfl, hbl, hc⟩ := HX.out (by omega)
        obtain ⟨h1, h2, h3⟩ := hc k hlt
        have g1 : wr.cell? ⟨b, off + k * 3, none⟩ = _ := (hb.cell (p := ⟨b, off + k * 3, none⟩) hbl).trans h1
        have g2 : wr.cell? ⟨b, off + k * 3 + 1, none⟩ = _ := (hb.cell (p := ⟨b, off + k * 3 + 1, none⟩) hbl).trans h2
        have g3 : wr.cell? ⟨b, off + k * 3 + 2, none⟩ = _ := (hb.cell (p := ⟨b, off + k * 3 + 2, none⟩) hbl).trans h3
        clear hc h1 h2 h3
        generalize eA : (cA cs k).k = K at g1
        generalize eB : (cA cs k).a = A at g2
        generalize eC : (cA cs k).b = B at g3
        have E : Hid (cs[k] = (⟨K, A, B⟩ : Cl)) := Lib.hid (by rw [← eA, ← eB, ← eC, cA_of hlt])
        clear eA eB eC
        have hb1 : Below w.heap.size w (wr.alloc (.cells #[.int .i64 K, .int .i64 A, .int .i64 B] 73)) := hb.alloc hb.size _
        go_wp2_with fail
        refine (pzClue_any _ _ _ _).mono ?_
        rintro e w2 ⟨rfl, b2⟩
        have hb2 := hb1.trans (b2.mono hb1.size)
        clear b2 hb1
        cases hB : clB ⟨K, A, B⟩
        · have R := Lib.hid (show cs.all clB = false by
            rw [List.all_eq_false]
            exact ⟨_, List.getElem_mem hlt, by rw [E.out, hB]; simp⟩)
          clear hB
          go_wp2_with fail
          go_ret
          exact ⟨by rw [R.out]; rfl, hb2⟩
        · have N := Lib.hid (show (cs.take (k + 1)).all clB = true by
            rw [List.take_add_one, List.getElem?_eq_getElem hlt, List.all_append, HA.out, E.out]
            simp [hB])
          clear hB HA
          go_wp2_with fail
          go_roundw
          case rel => exact ⟨k + 1, by omega, by go_num, N, hb2⟩
          case measure => simp [intOf]; omega
      · obtain rfl : k = cs.length := by omega
        have R := Lib.hid (show cs.all clB = true by have := HA.out; rwa [List.take_length] at this)
        go_wp2
        go_ret
        exact ⟨by rw [R.out]; rfl, hb⟩
  · have d : decide (6 < (cs.length : Int)) = true := by simp; omega
    have e0 : pzB cs = false := by simp [pzB, h6]
    rw [e0]
    clear e0 h6
    go_enter Tryd.func41, Tryd.ntmps41
    go_wp2
    go_ret
    exact ⟨rfl, (Below.refl _ _).alloc (Nat.le_refl _) _⟩

set_option maxHeartbeats 2000000 in
theorem implIsPuzzle_any (v : Value) (cs : List Cl) (w : World) (h : Cv w v cs) (hl : cs.length ≤ 1099511627776) :
    Calls Tryd.prog 44 #[.agg #[v]] w fun e w' => e = .returned (.bool (pzB cs)) ∧ Below w.heap.size w w' := by
  have b1 : Below w.heap.size w (w.alloc (.cells #[v] 43)) := (Below.refl _ _).alloc (Nat.le_refl _) _
  have PG := Lib.hid (areClues_any v cs _ (h.below b1 (Nat.le_refl _)) hl)
  obtain ⟨p, cap, rfl⟩ := h.shape
  clear h
  by_cases h6 : cs.length ≤ 6
  · have d : decide ((cs.length : Int) ≤ 6) = true := by simp; omega
    have e0 : pzB cs = cs.all clB := by simp [pzB, h6]
    rw [e0]
    clear e0
    go_enter Tryd.func44, Tryd.ntmps44
    go_wp2_with fail
    refine PG.out.mono ?_
    rintro e w2 ⟨rfl, b2⟩
    go_wp2_with fail
    go_ret
    exact ⟨rfl, nxt b1 b2⟩
  · have d : decide ((cs.length : Int) ≤ 6) = false := by simp; omega
    have e0 : pzB cs = false := by simp [pzB, h6]
    rw [e0]
    clear e0 h6
    go_enter Tryd.func44, Tryd.ntmps44
    go_wp2
    go_ret
    exact ⟨rfl, b1⟩

end Go.Proofs.YtgojlabkngnkdaaDoor
