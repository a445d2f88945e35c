/-
  AddClue in the model and in the program, by their contracts. Condition: at most 2^40 clues, the puzzle's row of the caller's own.
-/
import Derived.Test.YtgojlabkngnkdaaYis
import Derived.Test.YtgojlabkngnkdaaYvb
import Derived.Test.YtgojlabkngnkdaaYwo
import Derived.Test.YtgojlabkngnkdaaYmk
import Derived.Deep.RegionLaw
import Derived.Deep.CutRange
namespace Go.Proofs.Ytgojlabkngnkdaa
open Go.RowKit

theorem cs_kept {X w6 : World} {g b : Nat} {K A Z : Int} {t : TypeId} (hX : X.heap[g]? = some (.cells #[.int .i64 K, .int .i64 A, .int .i64 Z] t (0, 0))) (k : X.grownBy w6 (some b)) (hne : g ≠ b) : Cs w6 (.slice (some ⟨g, 0, none⟩) 1 1) [⟨K, A, Z⟩] := by
  have hr := (k.block g (Array.getElem?_eq_some_iff.1 hX).1 (by simpa using hne)).trans hX
  refine .inr ⟨g, 0, 1, rfl, (Array.getElem?_eq_some_iff.1 hr).1, fun j y hy => ?_⟩
  rw [cell_of_row _ _ _ _ _ _ hr, Nat.zero_add]
  exact flC_sole ⟨K, A, Z⟩ j y hy
theorem ckE3 (w2 : World) (K A Z : Int) : Ck ((w2.alloc (.cells #[.int .i64 K, .int .i64 A, .int .i64 Z] 54)).alloc (.cells #[] 54)).drew w2.heap.size (.slice (some ⟨w2.heap.size + 1, 0, none⟩) 0 0) [] := by
  have q := ckE (w2.alloc (.cells #[.int .i64 K, .int .i64 A, .int .i64 Z] 54))
  rw [World.size_alloc] at q
  exact (q.mono (Nat.le_succ _)).below (Below.refl _ _).drew (Nat.le_refl _)
theorem lit_at0 (w2 : World) (K A Z : Int) : (((w2.alloc (.cells #[.int .i64 K, .int .i64 A, .int .i64 Z] 54)).alloc (.cells #[] 54)).drew).heap[w2.heap.size]? = some (.cells #[.int .i64 K, .int .i64 A, .int .i64 Z] 54 (0, 0)) := blk_a w2 _ _
theorem lit_at (w2 : World) (K A Z : Int) : (((w2.alloc (.cells #[] 54)).drew.alloc (.cells #[.int .i64 K, .int .i64 A, .int .i64 Z] 54))).heap[w2.heap.size + 1]? = some (.cells #[.int .i64 K, .int .i64 A, .int .i64 Z] 54 (0, 0)) := by
  have e : ((w2.alloc (.cells #[] 54)).drew).heap.size = w2.heap.size + 1 := by simp
  have q := heap_alloc_new (w2.alloc (.cells #[] 54)).drew (.cells #[.int .i64 K, .int .i64 A, .int .i64 Z] 54)
  rw [e] at q
  exact q
def acB (cs : List Cl) (c : Cl) : Bool := pzB cs && (clB c && decide (cs.length ≠ 6))
def acR (cs : List Cl) (c : Cl) : List Cl := if acB cs c = true then cs ++ [c] else []
theorem acR_len (cs : List Cl) (c : Cl) : (acR cs c).length ≤ 6 := by
  unfold acR
  split
  · next h =>
    unfold acB at h
    simp only [Bool.and_eq_true, decide_eq_true_eq] at h
    have := (pzB_iff.1 h.1).1
    rw [List.length_append]; simp; omega
  · simp

set_option maxHeartbeats 8000000 in
set_option maxRecDepth 8000 in
theorem specAddClue_any (B0 : Nat) (v : Value) (cs : List Cl) (K A Z : Int) (w : World) (h : Ck w B0 v cs) (hl : cs.length ≤ 1099511627776) :
    Calls Try.prog 22 #[.agg #[v], .agg #[.int .i64 K, .int .i64 A, .int .i64 Z]] w fun e w' => ∃ u, e = .returned (.tuple #[.agg #[u], .bool (acB cs ⟨K, A, Z⟩)]) ∧ Ck w' w.heap.size u (acR cs ⟨K, A, Z⟩) ∧ Below w.heap.size w w' := by
  obtain ⟨p, cap, rfl⟩ := h.shape
  obtain ⟨W, eW⟩ : ∃ W, ((w.alloc (.cells #[.slice p cs.length cap] 50)).alloc (.cells #[.int .i64 K, .int .i64 A, .int .i64 Z] 54)).alloc (.cells #[.slice none 0 0] 50) = W := ⟨_, rfl⟩
  have hb0 : Below w.heap.size w W := by rw [← eW]; exact (((Below.refl _ _).alloc (Nat.le_refl _) _).alloc (by simp) _).alloc (by simp; omega) _
  have ZW : W.heap.size = w.heap.size + 1 + 1 + 1 := by rw [← eW]; simp
  have HA := Lib.hid (show W.heap[w.heap.size]? = some (.cells #[.slice p cs.length cap] 50 (0, 0)) by rw [← eW]; exact blk_0 w _ _ _)
  have HQ := Lib.hid (show W.heap[w.heap.size + 1]? = some (.cells #[.int .i64 K, .int .i64 A, .int .i64 Z] 54 (0, 0)) by rw [← eW]; exact blk_1 w _ _ _)
  have HR := Lib.hid (show W.heap[w.heap.size + 1 + 1]? = some (.cells #[.slice none 0 0] 50 (0, 0)) by rw [← eW]; exact blk_2 w _ _ _)
  have HS := Lib.hid (h.below hb0 (Nat.le_refl _))
  have HLN := Lib.hid hl
  have PG := Lib.hid (pzGood_any _ cs W HS.out.cv hl)
  have PC := Lib.hid (fun W' => pzClue_any K A Z W')
  clear h hl
  cases hB : pzB cs
  · rw [hB] at PG
    have E0 : acB cs ⟨K, A, Z⟩ = false := by unfold acB; rw [hB]; rfl
    have E1 : acR cs ⟨K, A, Z⟩ = [] := by unfold acR; rw [E0]; rfl
    rw [E0, E1]
    clear E0 E1
    clear hB
    obtain ⟨cA, -⟩ := cells1_of HA.out
    go_enter Try.func22, Try.ntmps22
    go_wp2_with fail
    clear eW cA
    refine PG.out.mono ?_
    rintro e w1 ⟨rfl, t⟩
    clear PG
    obtain ⟨cA, fA⟩ := cells1_of ((t.block _ (by omega)).trans HA.out)
    obtain ⟨x1, x2, x3, -, -, -⟩ := cells3_of ((t.block _ (by omega)).trans HQ.out)
    obtain ⟨cR, fR⟩ := cells1_of ((t.block _ (by omega)).trans HR.out)
    go_wp2_with fail
    exact bodyPost_ret (v := .tuple #[.agg #[.slice none 0 0], .bool false]) (by simp [results, Try.results22, go_sem, cR]) rfl ⟨_, rfl, Ck.nil _ _, (nxt hb0 t).setCell (Nat.le_trans (Nat.le_succ _) (Nat.le_succ _)) _⟩
  · rw [hB] at PG
    have h6 := (pzB_iff.1 hB).1
    cases hc : clB ⟨K, A, Z⟩
    · rw [hc] at PC
      have E0 : acB cs ⟨K, A, Z⟩ = false := by unfold acB; rw [hB, hc]; rfl
      have E1 : acR cs ⟨K, A, Z⟩ = [] := by unfold acR; rw [E0]; rfl
      rw [E0, E1]
      clear E0 E1
      clear hB
      obtain ⟨cA, -⟩ := cells1_of HA.out
      go_enter Try.func22, Try.ntmps22
      go_wp2_with fail
      clear eW cA
      refine PG.out.mono ?_
      rintro e w1 ⟨rfl, t⟩
      clear PG
      obtain ⟨cA, fA⟩ := cells1_of ((t.block _ (by omega)).trans HA.out)
      obtain ⟨x1, x2, x3, -, -, -⟩ := cells3_of ((t.block _ (by omega)).trans HQ.out)
      obtain ⟨cR, fR⟩ := cells1_of ((t.block _ (by omega)).trans HR.out)
      go_wp2_with fail
      clear cA fA x1 x2 x3 cR fR
      refine (PC.out _).mono ?_
      rintro e w2 ⟨rfl, b2⟩
      have t2 := nxt t b2
      clear b2
      obtain ⟨cA, fA⟩ := cells1_of ((t2.block _ (by omega)).trans HA.out)
      obtain ⟨x1, x2, x3, -, -, -⟩ := cells3_of ((t2.block _ (by omega)).trans HQ.out)
      obtain ⟨cR, fR⟩ := cells1_of ((t2.block _ (by omega)).trans HR.out)
      go_wp2_with fail
      exact bodyPost_ret (v := .tuple #[.agg #[.slice none 0 0], .bool false]) (by simp [results, Try.results22, go_sem, cR]) rfl ⟨_, rfl, Ck.nil _ _, (nxt hb0 t2).setCell (Nat.le_trans (Nat.le_succ _) (Nat.le_succ _)) _⟩
    · rw [hc] at PC
      by_cases h7 : cs.length = 6
      · have d6 : ((cs.length : Int) == 6) = true := by rw [h7]; rfl
        have E0 : acB cs ⟨K, A, Z⟩ = false := by unfold acB; rw [hB, hc, h7]; rfl
        have E1 : acR cs ⟨K, A, Z⟩ = [] := by unfold acR; rw [E0]; rfl
        rw [E0, E1]
        clear E0 E1
        clear hB h7
        obtain ⟨cA, -⟩ := cells1_of HA.out
        go_enter Try.func22, Try.ntmps22
        go_wp2_with fail
        clear eW cA
        refine PG.out.mono ?_
        rintro e w1 ⟨rfl, t⟩
        clear PG
        obtain ⟨cA, fA⟩ := cells1_of ((t.block _ (by omega)).trans HA.out)
        obtain ⟨x1, x2, x3, -, -, -⟩ := cells3_of ((t.block _ (by omega)).trans HQ.out)
        obtain ⟨cR, fR⟩ := cells1_of ((t.block _ (by omega)).trans HR.out)
        go_wp2_with fail
        clear cA fA x1 x2 x3 cR fR
        refine (PC.out _).mono ?_
        rintro e w2 ⟨rfl, b2⟩
        have t2 := nxt t b2
        clear b2
        obtain ⟨cA, fA⟩ := cells1_of ((t2.block _ (by omega)).trans HA.out)
        obtain ⟨x1, x2, x3, -, -, -⟩ := cells3_of ((t2.block _ (by omega)).trans HQ.out)
        obtain ⟨cR, fR⟩ := cells1_of ((t2.block _ (by omega)).trans HR.out)
        go_wp2_with fail
        exact bodyPost_ret (v := .tuple #[.agg #[.slice none 0 0], .bool false]) (by simp [results, Try.results22, go_sem, cR]) rfl ⟨_, rfl, Ck.nil _ _, (nxt hb0 t2).setCell (Nat.le_trans (Nat.le_succ _) (Nat.le_succ _)) _⟩
      · have d6 : ((cs.length : Int) == 6) = false := by rw [beq_eq_false_iff_ne]; omega
        have E0 : acB cs ⟨K, A, Z⟩ = true := by unfold acB; rw [hB, hc, decide_eq_true h7]; rfl
        have E1 : Hid (cs ++ [⟨K, A, Z⟩] = acR cs ⟨K, A, Z⟩) := Lib.hid (by unfold acR; rw [E0]; rfl)
        rw [E0]
        clear E0 hB h7
        obtain ⟨cA, -⟩ := cells1_of HA.out
        go_enter Try.func22, Try.ntmps22
        go_wp2_with fail
        clear eW cA
        refine PG.out.mono ?_
        rintro e w1 ⟨rfl, t⟩
        clear PG
        obtain ⟨cA, fA⟩ := cells1_of ((t.block _ (by omega)).trans HA.out)
        obtain ⟨x1, x2, x3, -, -, -⟩ := cells3_of ((t.block _ (by omega)).trans HQ.out)
        obtain ⟨cR, fR⟩ := cells1_of ((t.block _ (by omega)).trans HR.out)
        go_wp2_with fail
        clear cA fA x1 x2 x3 cR fR
        refine (PC.out _).mono ?_
        rintro e w2 ⟨rfl, b2⟩
        have t2 := nxt t b2
        clear b2
        have HS2 := Lib.hid (HS.out.cs.below t2 (Nat.le_refl _))
        have HV2 := Lib.hid (HS.out.below t2 (Nat.le_refl _))
        obtain ⟨cA, fA⟩ := cells1_of ((t2.block _ (by omega)).trans HA.out)
        obtain ⟨x1, x2, x3, -, -, -⟩ := cells3_of ((t2.block _ (by omega)).trans HQ.out)
        obtain ⟨cR, fR⟩ := cells1_of ((t2.block _ (by omega)).trans HR.out)
        have zt := t2.size
        have FX := fun (W' : World) (hb : Below w2.heap.size w2 W') => (⟨(hb.cell (p := ⟨w.heap.size, 0, none⟩) (by show w.heap.size < w2.heap.size; omega)).trans cA, (hb.cell (p := ⟨w.heap.size + 1, 0, none⟩) (by show w.heap.size + 1 < w2.heap.size; omega)).trans x1, (hb.cell (p := ⟨w.heap.size + 1, 1, none⟩) (by show w.heap.size + 1 < w2.heap.size; omega)).trans x2, (hb.cell (p := ⟨w.heap.size + 1, 2, none⟩) (by show w.heap.size + 1 < w2.heap.size; omega)).trans x3, cells1_of ((hb.block (w.heap.size + 1 + 1) (by omega)).trans ((t2.block _ (by omega)).trans HR.out))⟩ : W'.cell? ⟨w.heap.size, 0, none⟩ = some (.slice p cs.length cap) ∧ W'.cell? ⟨w.heap.size + 1, 0, none⟩ = some (.int .i64 K) ∧ W'.cell? ⟨w.heap.size + 1, 1, none⟩ = some (.int .i64 A) ∧ W'.cell? ⟨w.heap.size + 1, 2, none⟩ = some (.int .i64 Z) ∧ W'.cell? ⟨w.heap.size + 1 + 1, 0, none⟩ = some (.slice none 0 0) ∧ W'.frozen? ⟨w.heap.size + 1 + 1, 0, none⟩ = false)
        have G1 := FX (w2.alloc (.cells #[] 54)) ((Below.refl _ _).alloc (Nat.le_refl _) _)
        have G2 := FX ((w2.alloc (.cells #[] 54)).alloc (.cells #[.int .i64 K, .int .i64 A, .int .i64 Z] 54)) (((Below.refl _ _).alloc (Nat.le_refl _) _).alloc (by simp) _)
        have HX := Lib.hid (lit_at w2 K A Z)
        have HX0 := Lib.hid (lit_at0 w2 K A Z)
        have G3 := FX (w2.alloc (.cells #[.int .i64 K, .int .i64 A, .int .i64 Z] 54)) ((Below.refl _ _).alloc (Nat.le_refl _) _)
        have G4 := FX ((w2.alloc (.cells #[.int .i64 K, .int .i64 A, .int .i64 Z] 54)).alloc (.cells #[] 54)) (((Below.refl _ _).alloc (Nat.le_refl _) _).alloc (by simp) _)
        have HFX := Lib.hid FX
        clear FX
        go_upto_region 3 with (fail)
        obtain ⟨ga1, ga2, ga3, ga4, ga5, ga6⟩ := G1
        obtain ⟨gb1, gb2, gb3, gb4, gb5, gb6⟩ := G2
        obtain ⟨ge1, ge2, ge3, ge4, ge5, ge6⟩ := G3
        obtain ⟨gf1, gf2, gf3, gf4, gf5, gf6⟩ := G4
        go_region_law (first
          | (refine step_append_clue rfl (.tmp 21) (.tmp 23) rfl w2.heap.size _ [] rfl (by first | exact ((ckE w2).below (Below.refl _ _).drew (Nat.le_refl _)) | exact (((ckE w2).below (Below.refl _ _).drew (Nat.le_refl _)).below ((Below.refl _ _).alloc (Nat.le_refl _) _) (Nat.le_refl _)) | exact (ckE3 w2 K A Z)) _ cs rfl (HS2.out.below (by first | exact ((Below.refl _ w2).alloc (Nat.le_refl _) _).drew | exact (((Below.refl _ w2).alloc (Nat.le_refl _) _).drew.alloc (by simp) _) | exact (((Below.refl _ w2).alloc (Nat.le_refl _) _).alloc (by simp) _).drew) (Nat.le_refl _)) (by simp; omega) (by simp <;> omega) ?_; intro v6 w6 o6 g6; have b6 : Below w2.heap.size w2 w6 := (by first | exact ((Below.refl _ w2).alloc (Nat.le_refl _) _).drew.trans (CkGrown ((ckE w2).below (Below.refl _ _).drew (Nat.le_refl _)) (by simp <;> omega) g6) | exact (((Below.refl _ w2).alloc (Nat.le_refl _) _).drew.alloc (by simp) _).trans (CkGrown (((ckE w2).below (Below.refl _ _).drew (Nat.le_refl _)).below ((Below.refl _ _).alloc (Nat.le_refl _) _) (Nat.le_refl _)) (by simp <;> omega) g6) | exact (((Below.refl _ w2).alloc (Nat.le_refl _) _).alloc (by simp) _).drew.trans (CkGrown (ckE3 w2 K A Z) (by simp <;> omega) g6)); obtain ⟨gc1, gc2, gc3, gc4, gc5, gc6⟩ := HFX.out w6 b6; rw [List.nil_append] at o6; obtain ⟨p6, q6, e6⟩ := o6.shape; subst e6)
          | go_loud (refine step_append_clue rfl (.tmp 24) (.tmp 26) rfl w2.heap.size _ cs rfl (by first | exact o6 | exact o6.below ((Below.refl _ _).alloc (Nat.le_refl _) _) (Nat.le_refl _)) _ [⟨K, A, Z⟩] rfl (by first | exact cs_one _ ⟨K, A, Z⟩ | exact cs_kept HX.out g6 (by simp) | exact cs_kept HX0.out g6 (by simp)) (by simp; omega) (by have := b6.size; simp; omega) ?_; intro v7 w7 o7 g7; have b7 : Below w2.heap.size w2 w7 := (by first | exact (b6.alloc b6.size _).trans (CkGrown (o6.below ((Below.refl _ _).alloc (Nat.le_refl _) _) (Nat.le_refl _)) (by have := b6.size; simp; omega) g7) | exact b6.trans (CkGrown o6 b6.size g7)); obtain ⟨gd1, gd2, gd3, gd4, gd5, gd6⟩ := HFX.out w7 b7; have O7 := Lib.hid o7; obtain ⟨p7, q7, e7⟩ := o7.shape; subst e7; clear o7))
        all_goals
          have cR := gd5
          have HB7 := Lib.hid (nxt hb0 (t2.trans (b7.mono zt)))
          have O8 : Hid (Ck w7 w2.heap.size (.slice p7 (cs.length + 1) q7) (acR cs ⟨K, A, Z⟩)) := Lib.hid (by rw [← E1.out]; have z := O7.out; rw [List.length_append] at z; exact z)
          clear ge1 ge2 ge3 ge4 ge5 ge6 gf1 gf2 gf3 gf4 gf5 gf6 ga1 ga2 ga3 ga4 ga5 ga6 gb1 gb2 gb3 gb4 gb5 gb6 gc1 gc2 gc3 gc4 gc5 gc6 gd1 gd2 gd3 gd4 b6 b7 g6 g7 o6 O7
          go_wp2_with fail
          exact bodyPost_ret (v := .tuple #[.agg #[.slice p7 (cs.length + 1) q7], .bool true]) (by simp [results, Try.results22, go_sem, cR]) rfl ⟨_, rfl, (Ck.abv O8.out ((Abv.refl _ _).setCell (by omega) _ _)).mono (by omega), HB7.out.setCell (Nat.le_trans (Nat.le_succ _) (Nat.le_succ _)) _⟩
end Go.Proofs.Ytgojlabkngnkdaa
