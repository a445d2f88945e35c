/-
  AddClue in the program, by its contract. Condition: at most 2^40 clues, the puzzle's row of the caller's own.
-/
import Derived.Test.YtgojlabkngnkdaaYad
import Derived.ArgAppend
namespace Go.Proofs.Ytgojlabkngnkdaa
open Go.RowKit

def Cf (w : World) (v : Value) (ps : List Cl) : Prop :=
  (v = .slice none 0 0 ∧ ps = []) ∨ ∃ b off, v = .slice (some ⟨b, off, none⟩) ps.length ps.length ∧ b < w.heap.size ∧ ∀ j y, (flC ps)[j]? = some y → w.cell? ⟨b, off + j, none⟩ = some y
theorem Cf.below {w w' : World} {v : Value} {ps : List Cl} {B : Nat} (h : Cf w v ps) (hb : Below B w w') (hB : w.heap.size ≤ B) : Cf w' v ps := by
  rcases h with h | ⟨g, o, hu, hg, hc⟩
  · exact .inl h
  · exact .inr ⟨g, o, hu, Nat.lt_of_lt_of_le hg hb.size, fun j y hy => (hb.cell (p := ⟨g, o + j, none⟩) (by show g < B; omega)).trans (hc j y hy)⟩
theorem step_append_cutc {w : World} {ops : Array Oper} {o : Oper} {a : Act} {K : Act → World → Prop} {Q : Exit → Act → World → Prop} {E : Prop} (hgd : o.guard = none) (s x : Operand)
    (ho : o.op = .call { callee := .builtin .append, args := #[s, x], argTypes := #[48, 48] })
    (v : Value) (ps : List Cl) (hs : a.eval s = v) (hv : Cf w v ps) (u : Value) (c : Cl) (hx : a.eval x = u) (hu : Cs w u [c]) (hl : ps.length ≤ 1048576)
    (h : ∀ v' w', Ck w' w.heap.size v' (ps ++ [c]) → Below w.heap.size w w' → K (a.put o.dst v') w') :
    if Region.wanted o (yielded ops a.tmps) = true then Oper.wp Try.prog o a w K Q else E := by
  have hw : Region.wanted o (yielded ops a.tmps) = true := by simp [Region.wanted, hgd]
  rw [if_pos hw]
  obtain ⟨i0, hi, hz0, hz1, hz2⟩ := clue_info
  rcases hu with ⟨-, e0⟩ | ⟨g, off, cc, eu, hg, hc⟩
  · simp at e0
  have key : ∃ v' w', (Builtin.append_ #[48, 48] o.type #[v, u]).run Try.prog w = .ok v' w' ∧ w'.ownsRow w.heap.size 54 3 v' (ps.length + 1) (flC ps ++ flC [c]) ∧ w.grownBy w' none := by
    subst eu
    rcases hv with ⟨e, e0⟩ | ⟨b, o2, e, hb, hp⟩
    · subst e e0
      obtain ⟨v', w', r, k2, k3, _⟩ := run_append_own (P := Try.prog) w w.heap.size 48 o.type 54 i0 _ 3 24 Try.underlying48 hi hz0 hz1 hz2 zc3 (by decide) (.slice none 0 0) 0 [] (World.ownsRow_nil _ _ _ _) ⟨g, off, none⟩ 1 cc (flC [c]) (flC_len [c])
        (fun j y hy => by rw [addr_add]; exact hc j y hy) (flC_one [c]) (by unfold maxLen; omega) (by omega) (Nat.le_refl _)
      have e1 : flC ([] : List Cl) = [] := rfl
      refine ⟨v', w', r, ?_, k3⟩
      rw [e1]
      simpa using k2
    · subst e
      exact run_append_arg_grows (P := Try.prog) w 48 o.type 54 i0 _ 3 24 Try.underlying48 hi hz0 hz1 hz2 zc3 (by decide) ⟨b, o2, none⟩ ps.length ps.length (flC ps) (flC_len ps)
        (fun j y hy => by rw [addr_add]; exact hp j y hy) ⟨g, off, none⟩ 1 cc (flC [c]) (flC_len [c]) (fun j y hy => by rw [addr_add]; exact hc j y hy) (by omega) (by unfold maxLen; omega) (by omega)
  obtain ⟨v', w', r, k2, k3⟩ := key
  unfold Oper.wp execOp
  simp only [ho, resolve, invoke, builtin, Sem.run_bind, Sem.run_pure, Result.andThen_ok, List.map_toArray, List.map_cons, List.map_nil, hs, hx, r]
  exact h v' w' (by unfold Ck; rw [List.length_append, flC_app]; exact k2) ((Below.refl _ w).grown k3 (Nat.le_refl _) fun k hk => by cases hk)

set_option maxHeartbeats 8000000 in
set_option maxRecDepth 8000 in
theorem implAddClue_any (B0 : Nat) (v : Value) (cs : List Cl) (K A Z : Int) (w : World) (h : Ck w B0 v cs) (hl : cs.length ≤ 1099511627776) :
    Calls Try.prog 25 #[.agg #[v], .agg #[.int .i64 K, .int .i64 A, .int .i64 Z]] w fun e w' => ∃ u, e = .returned (.tuple #[.agg #[u], .bool (acB cs ⟨K, A, Z⟩)]) ∧ Ck w' w.heap.size u (acR cs ⟨K, A, Z⟩) ∧ Below w.heap.size w w' := by
  obtain ⟨p, cap, rfl⟩ := h.shape
  obtain ⟨W, eW⟩ : ∃ W, ((w.alloc (.cells #[.slice p cs.length cap] 50)).alloc (.cells #[.int .i64 K, .int .i64 A, .int .i64 Z] 54)).alloc (.cells #[.slice none 0 0] 50) = W := ⟨_, rfl⟩
  have hb0 : Below w.heap.size w W := by rw [← eW]; exact (((Below.refl _ _).alloc (Nat.le_refl _) _).alloc (by simp) _).alloc (by simp; omega) _
  have ZW : W.heap.size = w.heap.size + 1 + 1 + 1 := by rw [← eW]; simp
  have HA := Lib.hid (show W.heap[w.heap.size]? = some (.cells #[.slice p cs.length cap] 50 (0, 0)) by rw [← eW]; exact blk_0 w _ _ _)
  have HQ := Lib.hid (show W.heap[w.heap.size + 1]? = some (.cells #[.int .i64 K, .int .i64 A, .int .i64 Z] 54 (0, 0)) by rw [← eW]; exact blk_1 w _ _ _)
  have HR := Lib.hid (show W.heap[w.heap.size + 1 + 1]? = some (.cells #[.slice none 0 0] 50 (0, 0)) by rw [← eW]; exact blk_2 w _ _ _)
  have HS := Lib.hid (h.below hb0 (Nat.le_refl _))
  have HLN := Lib.hid hl
  have PG := Lib.hid (implIsPuzzle_any _ cs W HS.out.cv hl)
  have PC := Lib.hid (fun W' => implIsClue_any K A Z W')
  clear h hl
  cases hB : pzB cs
  · rw [hB] at PG
    have E0 : acB cs ⟨K, A, Z⟩ = false := by unfold acB; rw [hB]; rfl
    have E1 : acR cs ⟨K, A, Z⟩ = [] := by unfold acR; rw [E0]; rfl
    rw [E0, E1]
    clear E0 E1
    clear hB
    obtain ⟨cA, -⟩ := cells1_of HA.out
    go_enter Try.func25, Try.ntmps25
    go_wp2_with fail
    clear eW cA
    refine PG.out.mono ?_
    rintro e w1 ⟨rfl, t⟩
    clear PG
    obtain ⟨cA, fA⟩ := cells1_of ((t.block _ (by omega)).trans HA.out)
    obtain ⟨x1, x2, x3, -, -, -⟩ := cells3_of ((t.block _ (by omega)).trans HQ.out)
    obtain ⟨cR, fR⟩ := cells1_of ((t.block _ (by omega)).trans HR.out)
    go_wp2_with fail
    exact bodyPost_ret (v := .tuple #[.agg #[.slice none 0 0], .bool false]) (by simp [results, Try.results25, go_sem, cR]) rfl ⟨_, rfl, Ck.nil _ _, (nxt hb0 t).setCell (Nat.le_trans (Nat.le_succ _) (Nat.le_succ _)) _⟩
  · rw [hB] at PG
    have h6 := (pzB_iff.1 hB).1
    cases hc : clB ⟨K, A, Z⟩
    · rw [hc] at PC
      have E0 : acB cs ⟨K, A, Z⟩ = false := by unfold acB; rw [hB, hc]; rfl
      have E1 : acR cs ⟨K, A, Z⟩ = [] := by unfold acR; rw [E0]; rfl
      rw [E0, E1]
      clear E0 E1
      clear hB
      obtain ⟨cA, -⟩ := cells1_of HA.out
      go_enter Try.func25, Try.ntmps25
      go_wp2_with fail
      clear eW cA
      refine PG.out.mono ?_
      rintro e w1 ⟨rfl, t⟩
      clear PG
      obtain ⟨cA, fA⟩ := cells1_of ((t.block _ (by omega)).trans HA.out)
      obtain ⟨x1, x2, x3, -, -, -⟩ := cells3_of ((t.block _ (by omega)).trans HQ.out)
      obtain ⟨cR, fR⟩ := cells1_of ((t.block _ (by omega)).trans HR.out)
      go_wp2_with fail
      clear cA fA x1 x2 x3 cR fR
      refine (PC.out _).mono ?_
      rintro e w2 ⟨rfl, b2⟩
      have t2 := nxt t b2
      clear b2
      obtain ⟨cA, fA⟩ := cells1_of ((t2.block _ (by omega)).trans HA.out)
      obtain ⟨x1, x2, x3, -, -, -⟩ := cells3_of ((t2.block _ (by omega)).trans HQ.out)
      obtain ⟨cR, fR⟩ := cells1_of ((t2.block _ (by omega)).trans HR.out)
      go_wp2_with fail
      exact bodyPost_ret (v := .tuple #[.agg #[.slice none 0 0], .bool false]) (by simp [results, Try.results25, go_sem, cR]) rfl ⟨_, rfl, Ck.nil _ _, (nxt hb0 t2).setCell (Nat.le_trans (Nat.le_succ _) (Nat.le_succ _)) _⟩
    · rw [hc] at PC
      by_cases h7 : cs.length = 6
      · have d6 : ((cs.length : Int) == 6) = true := by rw [h7]; rfl
        have E0 : acB cs ⟨K, A, Z⟩ = false := by unfold acB; rw [hB, hc, h7]; rfl
        have E1 : acR cs ⟨K, A, Z⟩ = [] := by unfold acR; rw [E0]; rfl
        rw [E0, E1]
        clear E0 E1
        clear hB h7
        obtain ⟨cA, -⟩ := cells1_of HA.out
        go_enter Try.func25, Try.ntmps25
        go_wp2_with fail
        clear eW cA
        refine PG.out.mono ?_
        rintro e w1 ⟨rfl, t⟩
        clear PG
        obtain ⟨cA, fA⟩ := cells1_of ((t.block _ (by omega)).trans HA.out)
        obtain ⟨x1, x2, x3, -, -, -⟩ := cells3_of ((t.block _ (by omega)).trans HQ.out)
        obtain ⟨cR, fR⟩ := cells1_of ((t.block _ (by omega)).trans HR.out)
        go_wp2_with fail
        clear cA fA x1 x2 x3 cR fR
        refine (PC.out _).mono ?_
        rintro e w2 ⟨rfl, b2⟩
        have t2 := nxt t b2
        clear b2
        obtain ⟨cA, fA⟩ := cells1_of ((t2.block _ (by omega)).trans HA.out)
        obtain ⟨x1, x2, x3, -, -, -⟩ := cells3_of ((t2.block _ (by omega)).trans HQ.out)
        obtain ⟨cR, fR⟩ := cells1_of ((t2.block _ (by omega)).trans HR.out)
        go_wp2_with fail
        exact bodyPost_ret (v := .tuple #[.agg #[.slice none 0 0], .bool false]) (by simp [results, Try.results25, go_sem, cR]) rfl ⟨_, rfl, Ck.nil _ _, (nxt hb0 t2).setCell (Nat.le_trans (Nat.le_succ _) (Nat.le_succ _)) _⟩
      · have d6 : ((cs.length : Int) == 6) = false := by rw [beq_eq_false_iff_ne]; omega
        have E0 : acB cs ⟨K, A, Z⟩ = true := by unfold acB; rw [hB, hc, decide_eq_true h7]; rfl
        have E1 : Hid (cs ++ [⟨K, A, Z⟩] = acR cs ⟨K, A, Z⟩) := Lib.hid (by unfold acR; rw [E0]; rfl)
        rw [E0]
        clear E0 hB h7
        obtain ⟨cA, -⟩ := cells1_of HA.out
        go_enter Try.func25, Try.ntmps25
        go_wp2_with fail
        clear eW cA
        refine PG.out.mono ?_
        rintro e w1 ⟨rfl, t⟩
        clear PG
        obtain ⟨cA, fA⟩ := cells1_of ((t.block _ (by omega)).trans HA.out)
        obtain ⟨x1, x2, x3, -, -, -⟩ := cells3_of ((t.block _ (by omega)).trans HQ.out)
        obtain ⟨cR, fR⟩ := cells1_of ((t.block _ (by omega)).trans HR.out)
        go_wp2_with fail
        clear cA fA x1 x2 x3 cR fR
        refine (PC.out _).mono ?_
        rintro e w2 ⟨rfl, b2⟩
        have t2 := nxt t b2
        clear b2
        have HS2 := Lib.hid (HS.out.cs.below t2 (Nat.le_refl _))
        have HV2 := Lib.hid (HS.out.below t2 (Nat.le_refl _))
        obtain ⟨cA, fA⟩ := cells1_of ((t2.block _ (by omega)).trans HA.out)
        obtain ⟨x1, x2, x3, -, -, -⟩ := cells3_of ((t2.block _ (by omega)).trans HQ.out)
        obtain ⟨cR, fR⟩ := cells1_of ((t2.block _ (by omega)).trans HR.out)
        have hkc := HV2.out.cv.facts
        have i1 : (cs.length : Int) ≤ (cap : Int) := by omega
        have i2 : (0 : Int) ≤ (cs.length : Int) := by omega
        have i3 : cap ≤ 9223372036854775807 := by have := hkc.2; unfold maxLen at this; exact this
        clear hkc
        rcases HS2.out with ⟨e, e0⟩ | ⟨g, off, c2, e, hg, hc⟩
        · simp only [Value.slice.injEq] at e
          obtain ⟨rfl, -, rfl⟩ := e
          have HCF : Hid (Cf w2 (.slice none 0 0) cs) := Lib.hid (.inl ⟨rfl, e0⟩)
          have e9 : cs.length = 0 := by rw [e0]; rfl
          clear e0
          rw [e9] at cA
          have zt := t2.size
          have FX := fun (W' : World) (hb : Below w2.heap.size w2 W') => (⟨(hb.cell (p := ⟨w.heap.size, 0, none⟩) (by show w.heap.size < w2.heap.size; omega)).trans cA, (hb.cell (p := ⟨w.heap.size + 1, 0, none⟩) (by show w.heap.size + 1 < w2.heap.size; omega)).trans x1, (hb.cell (p := ⟨w.heap.size + 1, 1, none⟩) (by show w.heap.size + 1 < w2.heap.size; omega)).trans x2, (hb.cell (p := ⟨w.heap.size + 1, 2, none⟩) (by show w.heap.size + 1 < w2.heap.size; omega)).trans x3, cells1_of ((hb.block (w.heap.size + 1 + 1) (by omega)).trans ((t2.block _ (by omega)).trans HR.out))⟩ : W'.cell? ⟨w.heap.size, 0, none⟩ = some (.slice none 0 0) ∧ W'.cell? ⟨w.heap.size + 1, 0, none⟩ = some (.int .i64 K) ∧ W'.cell? ⟨w.heap.size + 1, 1, none⟩ = some (.int .i64 A) ∧ W'.cell? ⟨w.heap.size + 1, 2, none⟩ = some (.int .i64 Z) ∧ W'.cell? ⟨w.heap.size + 1 + 1, 0, none⟩ = some (.slice none 0 0) ∧ W'.frozen? ⟨w.heap.size + 1 + 1, 0, none⟩ = false)
          have G1 := FX (w2.alloc (.cells #[.int .i64 K, .int .i64 A, .int .i64 Z] 54)) ((Below.refl _ _).alloc (Nat.le_refl _) _)
          have HFX := Lib.hid FX
          clear FX
          go_upto_region 4 with (fail)
          obtain ⟨ga1, ga2, ga3, ga4, ga5, ga6⟩ := G1
          go_region_law (first
            | go_loud (refine step_append_cutc rfl (.tmp 27) (.tmp 29) rfl _ cs rfl (HCF.out.below (by first | exact (Below.refl _ w2).drew.alloc (Nat.le_refl _) _ | exact ((Below.refl _ w2).alloc (Nat.le_refl _) _).drew) (Nat.le_refl _)) _ ⟨K, A, Z⟩ rfl (by first | exact cs_one w2.drew ⟨K, A, Z⟩ | exact cs_one w2 ⟨K, A, Z⟩ | exact (cs_one w2 ⟨K, A, Z⟩).below (Below.refl _ _).drew (Nat.le_refl _)) (by omega) ?_; intro v7 w7 o7 g7; have b7 : Below w2.heap.size w2 w7 := (by first | exact ((Below.refl _ w2).drew.alloc (Nat.le_refl _) _).trans (g7.mono (by simp)) | exact (((Below.refl _ w2).alloc (Nat.le_refl _) _).drew).trans (g7.mono (by simp))); obtain ⟨gd1, gd2, gd3, gd4, gd5, gd6⟩ := HFX.out w7 b7; have O7 := Lib.hid (o7.mono (show w2.heap.size ≤ _ by simp)); obtain ⟨p7, q7, e7⟩ := o7.shape; subst e7; clear o7))
          all_goals
            have cR := gd5
            have HB7 := Lib.hid (nxt hb0 (t2.trans (b7.mono zt)))
            have O8 : Hid (Ck w7 w2.heap.size (.slice p7 1 q7) (acR cs ⟨K, A, Z⟩)) := Lib.hid (by rw [← E1.out]; have z := O7.out; rw [List.length_append, e9] at z; exact z)
            clear ga1 ga2 ga3 ga4 ga5 ga6 gd1 gd2 gd3 gd4 b7 g7 O7
            go_wp2_with fail
            exact bodyPost_ret (v := .tuple #[.agg #[.slice p7 1 q7], .bool true]) (by simp [results, Try.results25, go_sem, cR]) rfl ⟨_, rfl, (Ck.abv O8.out ((Abv.refl _ _).setCell (by omega) _ _)).mono (by omega), HB7.out.setCell (Nat.le_trans (Nat.le_succ _) (Nat.le_succ _)) _⟩

        · simp only [Value.slice.injEq, true_and] at e
          obtain ⟨rfl, rfl⟩ := e
          have HCF : Hid (Cf w2 (.slice (some ⟨g, off, none⟩) cs.length cs.length) cs) := Lib.hid (.inr ⟨g, off, rfl, hg, hc⟩)
          clear hg hc
          have zt := t2.size
          have FX := fun (W' : World) (hb : Below w2.heap.size w2 W') => (⟨(hb.cell (p := ⟨w.heap.size, 0, none⟩) (by show w.heap.size < w2.heap.size; omega)).trans cA, (hb.cell (p := ⟨w.heap.size + 1, 0, none⟩) (by show w.heap.size + 1 < w2.heap.size; omega)).trans x1, (hb.cell (p := ⟨w.heap.size + 1, 1, none⟩) (by show w.heap.size + 1 < w2.heap.size; omega)).trans x2, (hb.cell (p := ⟨w.heap.size + 1, 2, none⟩) (by show w.heap.size + 1 < w2.heap.size; omega)).trans x3, cells1_of ((hb.block (w.heap.size + 1 + 1) (by omega)).trans ((t2.block _ (by omega)).trans HR.out))⟩ : W'.cell? ⟨w.heap.size, 0, none⟩ = some (.slice (some ⟨g, off, none⟩) cs.length cap) ∧ W'.cell? ⟨w.heap.size + 1, 0, none⟩ = some (.int .i64 K) ∧ W'.cell? ⟨w.heap.size + 1, 1, none⟩ = some (.int .i64 A) ∧ W'.cell? ⟨w.heap.size + 1, 2, none⟩ = some (.int .i64 Z) ∧ W'.cell? ⟨w.heap.size + 1 + 1, 0, none⟩ = some (.slice none 0 0) ∧ W'.frozen? ⟨w.heap.size + 1 + 1, 0, none⟩ = false)
          have G1 := FX (w2.alloc (.cells #[.int .i64 K, .int .i64 A, .int .i64 Z] 54)) ((Below.refl _ _).alloc (Nat.le_refl _) _)
          have HFX := Lib.hid FX
          clear FX
          go_upto_region 4 with (fail)
          obtain ⟨ga1, ga2, ga3, ga4, ga5, ga6⟩ := G1
          go_region_law (first
            | go_loud (refine step_append_cutc rfl (.tmp 27) (.tmp 29) rfl _ cs rfl (HCF.out.below (by first | exact (Below.refl _ w2).drew.alloc (Nat.le_refl _) _ | exact ((Below.refl _ w2).alloc (Nat.le_refl _) _).drew) (Nat.le_refl _)) _ ⟨K, A, Z⟩ rfl (by first | exact cs_one w2.drew ⟨K, A, Z⟩ | exact cs_one w2 ⟨K, A, Z⟩ | exact (cs_one w2 ⟨K, A, Z⟩).below (Below.refl _ _).drew (Nat.le_refl _)) (by omega) ?_; intro v7 w7 o7 g7; have b7 : Below w2.heap.size w2 w7 := (by first | exact ((Below.refl _ w2).drew.alloc (Nat.le_refl _) _).trans (g7.mono (by simp)) | exact (((Below.refl _ w2).alloc (Nat.le_refl _) _).drew).trans (g7.mono (by simp))); obtain ⟨gd1, gd2, gd3, gd4, gd5, gd6⟩ := HFX.out w7 b7; have O7 := Lib.hid (o7.mono (show w2.heap.size ≤ _ by simp)); obtain ⟨p7, q7, e7⟩ := o7.shape; subst e7; clear o7))
          all_goals
            have cR := gd5
            have HB7 := Lib.hid (nxt hb0 (t2.trans (b7.mono zt)))
            have O8 : Hid (Ck w7 w2.heap.size (.slice p7 (cs.length + 1) q7) (acR cs ⟨K, A, Z⟩)) := Lib.hid (by rw [← E1.out]; have z := O7.out; rw [List.length_append] at z; exact z)
            clear ga1 ga2 ga3 ga4 ga5 ga6 gd1 gd2 gd3 gd4 b7 g7 O7
            go_wp2_with fail
            exact bodyPost_ret (v := .tuple #[.agg #[.slice p7 (cs.length + 1) q7], .bool true]) (by simp [results, Try.results25, go_sem, cR]) rfl ⟨_, rfl, (Ck.abv O8.out ((Abv.refl _ _).setCell (by omega) _ _)).mono (by omega), HB7.out.setCell (Nat.le_trans (Nat.le_succ _) (Nat.le_succ _)) _⟩

end Go.Proofs.Ytgojlabkngnkdaa
