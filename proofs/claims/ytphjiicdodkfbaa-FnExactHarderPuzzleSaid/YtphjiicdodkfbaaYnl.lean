/-
  NeedlessClues in the model and in the program, by their contracts. Condition: at most 2^40 clues.
-/
import Derived.Test.YtphjiicdodkfbaaYdc
import Derived.Test.YtphjiicdodkfbaaLpz
namespace Go.Proofs.Ytphjiicdodkfbaa
open Go.RowKit

noncomputable def nlF (cs : List Cl) (k : Nat) : Bool := @decide ((solL (woL cs k)).length = (solL cs).length) (Classical.propDecidable _)
noncomputable def nlT (cs : List Cl) (k : Nat) : List Int := ((List.range k).filter (nlF cs)).map (fun (j : Nat) => (j : Int))
noncomputable def nlR (cs : List Cl) : List Int := if pzB cs = true then nlT cs cs.length else []
theorem nlT_len (cs : List Cl) (k : Nat) : (nlT cs k).length ≤ k := by
  unfold nlT
  rw [List.length_map]
  have := List.length_filter_le (nlF cs) (List.range k)
  rwa [List.length_range] at this
theorem nlT_yes {cs : List Cl} {k : Nat} (h : nlF cs k = true) : nlT cs k ++ [(k : Int)] = nlT cs (k + 1) := by
  unfold nlT; rw [List.range_succ, List.filter_append, List.map_append]; simp [h]
theorem nlT_no {cs : List Cl} {k : Nat} (h : nlF cs k = false) : nlT cs k = nlT cs (k + 1) := by
  unfold nlT; rw [List.range_succ, List.filter_append, List.map_append]; simp [h]
theorem nl_bd (cs : List Cl) : (nlR cs).length ≤ 1099511627776 := by
  unfold nlR
  split
  · next h => have := (pzB_iff.1 h).1; have := nlT_len cs cs.length; omega
  · simp
theorem wo_ok {cs : List Cl} (h : ∀ c ∈ cs, clB c = true) (k : Nat) : ∀ c ∈ woL cs k, clB c = true := fun c hc => by
  unfold woL at hc
  rcases List.mem_append.1 hc with hc | hc
  · exact h c (List.mem_of_mem_take hc)
  · exact h c (List.mem_of_mem_drop hc)
theorem wo_len (cs : List Cl) (k : Nat) : (woL cs k).length ≤ cs.length := by
  unfold woL; rw [List.length_append, List.length_take, List.length_drop]; omega

set_option maxHeartbeats 4000000 in
theorem specNeedlessClues_any (v : Value) (cs : List Cl) (w : World) (h : Cv w v cs) (hl : cs.length ≤ 1099511627776) :
    Calls Try.prog 49 #[.agg #[v]] w fun e w' => ∃ u, e = .returned (.tuple #[u, .bool (pzB cs)]) ∧ Ow w' w.heap.size u (nlR cs) ∧ Below w.heap.size w w' := by
  obtain ⟨p, cap, rfl⟩ := h.shape
  obtain ⟨W, eW⟩ : ∃ W, w.alloc (.cells #[.slice p cs.length cap] 39) = W := ⟨_, rfl⟩
  have b1 : Below w.heap.size w W := by rw [← eW]; exact (Below.refl _ _).alloc (Nat.le_refl _) _
  have A : Bx W w.heap.size (.slice p cs.length cap) := by rw [← eW]; exact bx_new _ _ _
  have PG := Lib.hid (pzGood_any _ cs W (h.below b1 (Nat.le_refl _)) hl)
  have HH := Lib.hid h
  have HL := Lib.hid hl
  clear h hl
  cases hB : pzB cs
  · rw [hB] at PG
    have E1 : nlR cs = [] := by unfold nlR; rw [if_neg (by rw [hB]; simp)]
    rw [E1]
    have cA := A.cell
    go_enter Try.func49, Try.ntmps49
    go_wp2_with fail
    clear eW cA
    refine PG.out.mono ?_
    rintro e w1 ⟨rfl, b⟩
    have t := nxt b1 b
    clear b PG
    go_wp2_with fail
    go_ret2
    exact ⟨_, rfl, World.ownsRow_nil _ _ _ _, t⟩
  · rw [hB] at PG
    have HC : Hid (∀ c ∈ cs, clB c = true) := Lib.hid (pzB_iff.1 hB).2
    have H6 : Hid (cs.length ≤ 6) := Lib.hid (pzB_iff.1 hB).1
    have ER : Hid (nlR cs = nlT cs cs.length) := Lib.hid (by unfold nlR; rw [if_pos hB])
    clear hB
    have cA := A.cell
    go_enter Try.func49, Try.ntmps49
    go_wp2_with fail
    clear eW cA
    refine PG.out.mono ?_
    rintro e w1 ⟨rfl, b⟩
    have A1 := A.below b
    have t := nxt b1 b
    have HS := Lib.hid (HH.out.below t (Nat.le_refl _))
    have cA := A1.cell
    clear b PG A
    have CF := Lib.hid (pzAll_any _ cs w1 HS.out HC.out HL.out)
    obtain ⟨N0, eN0⟩ : ∃ N0, (solL cs).length = N0 := ⟨_, rfl⟩
    have HN0 := Lib.hid eN0
    have BN0 : N0 ≤ 2401 := by rw [← eN0]; exact solL_bd cs
    clear eN0
    go_wp2_with fail
    clear cA
    refine CF.out.mono ?_
    rintro e w2 ⟨u2, vals2, rfl, r2, b2⟩
    obtain ⟨p2, c2, e2⟩ := r2.form
    rw [HN0.out] at e2
    subst e2
    clear r2
    have t := nxt t b2
    have A1 := A1.below b2
    have HS := Lib.hid (HS.out.below b2 (Nat.le_refl _))
    obtain ⟨w1, rfl⟩ : ∃ x, x = w2 := ⟨w2, rfl⟩
    have cA := A1.cell
    have zA := A1.lt
    clear b2 CF
    go_wp2_with fail
    clear cA
    go_loopw [4, 17] (fun x i wr => ∃ (k : Nat) (L : List Int), k ≤ cs.length ∧ i = .int .i64 k ∧ Ow wr w1.heap.size x L ∧ Hid (L = nlT cs k) ∧ Below w1.heap.size w1 wr) (fun _ i _ => cs.length - (intOf i).toNat)
    case atStart => exact ⟨0, [], Nat.zero_le _, rfl, World.ownsRow_nil _ _ _ _, Lib.hid rfl, Below.refl _ _⟩
    case round =>
      obtain ⟨k, L, hk, rfl, ho, HLL, hb⟩ := hrel
      have hz := hb.size
      have A2 : Bx wr w.heap.size (.slice p cs.length cap) := A1.below hb
      have cA := A2.cell
      have h6 := H6.out
      have hLk : L.length ≤ 8 := by rw [HLL.out]; have := nlT_len cs k; omega
      by_cases hlt : k < cs.length
      · have WO := Lib.hid (pzWithout_any p cap k cs wr (HS.out.below hb (Nat.le_refl _)) hlt (by omega))
        have CA := fun (u : Value) (W' : World) (h : Ck W' wr.heap.size u (woL cs k)) => pzAll_any u (woL cs k) W' h.cv (wo_ok HC.out k) (by have := wo_len cs k; omega)
        have BD := solL_bd (woL cs k)
        have EF : nlF cs k = decide ((solL (woL cs k)).length = N0) := by unfold nlF; rw [HN0.out]; congr
        generalize solL (woL cs k) = T at *
        obtain ⟨n, en⟩ : ∃ n, T.length = n := ⟨_, rfl⟩
        rw [en] at EF BD
        have HEN := Lib.hid en
        have HCA := Lib.hid CA
        have HEF := Lib.hid EF
        clear en CA EF
        obtain ⟨px, cx, rfl⟩ := ho.sv.form
        by_cases hn : n = N0
        · have N : Hid (L ++ [(k : Int)] = nlT cs (k + 1)) := Lib.hid (by rw [HLL.out]; exact nlT_yes (by rw [HEF.out]; simpa using hn))
          have dn : ((n : Int) == (N0 : Int)) = true := by simp [hn]
          have HNN := Lib.hid hn
          clear hn HLL HEF
          have HO := Lib.hid ho
          clear ho
          go_wp2_with fail
          refine WO.out.mono ?_
          rintro e w4 ⟨u4, rfl, o4, b4⟩
          go_wp2_with fail
          refine (HCA.out _ _ o4).mono ?_
          rintro e w5 ⟨u5, vals5, rfl, r5, b5⟩
          obtain ⟨p5, c5, e5⟩ := r5.form
          rw [HEN.out] at e5
          subst e5
          clear r5
          have b45 := nxt b4 b5
          have hb5 := hb.trans (b45.mono hz)
          have hz5 := b45.size
          have o5 := HO.out.below b45 (Nat.le_refl _)
          clear o4 b4 b5 b45 cA
          go_wp2_with (at_builtin; refine wpList_append_src rfl _ _ rfl w1.heap.size _ L rfl (o5.below ((Below.refl _ _).alloc (Nat.le_refl _) _) (Nat.le_refl _)) (.slice (some ⟨w5.heap.size, 0, none⟩) 1 1) [(k : Int)] rfl (src_one w5 k) (by simp; omega) (by simp; omega) ?_; intro u6 w6 o6 g6; have b6 := ((Below.refl w5.heap.size w5).alloc (Nat.le_refl _) (.cells #[.int .i64 (k : Int)] 3)); have b7 := Ow.grown (o5.below ((Below.refl _ _).alloc (Nat.le_refl _) _) (Nat.le_refl _)) (by simp; omega) g6)
          have hb7 := hb5.trans ((b6.mono (by omega)).trans b7)
          clear o5 g6 b6 b7
          go_roundw
          case rel => exact ⟨k + 1, _, by omega, by go_num, o6, N, hb7⟩
          case measure => simp [intOf]; omega
        · have N : Hid (L = nlT cs (k + 1)) := Lib.hid (by rw [HLL.out]; exact nlT_no (by rw [HEF.out]; simpa using hn))
          have dn : ((n : Int) == (N0 : Int)) = false := by rw [beq_eq_false_iff_ne]; omega
          clear hn HLL HEF
          have HO := Lib.hid ho
          clear ho
          go_wp2_with fail
          refine WO.out.mono ?_
          rintro e w4 ⟨u4, rfl, o4, b4⟩
          go_wp2_with fail
          refine (HCA.out _ _ o4).mono ?_
          rintro e w5 ⟨u5, vals5, rfl, r5, b5⟩
          obtain ⟨p5, c5, e5⟩ := r5.form
          rw [HEN.out] at e5
          subst e5
          clear r5
          have b45 := nxt b4 b5
          have hb5 := hb.trans (b45.mono hz)
          have o5 := HO.out.below b45 (Nat.le_refl _)
          clear o4 b4 b5 b45 cA
          go_wp2_with fail
          go_roundw
          case rel => exact ⟨k + 1, L, by omega, by go_num, o5, N, hb5⟩
          case measure => simp [intOf]; omega
      · obtain rfl : k = cs.length := by omega
        have HRES : Hid (L = nlR cs) := Lib.hid (by rw [HLL.out]; exact ER.out.symm)
        clear HLL
        go_wp2
        go_ret2
        exact ⟨_, rfl, by rw [← HRES.out]; exact ho.mono t.size, nxt t hb⟩

set_option maxHeartbeats 4000000 in
theorem implNeedlessClues_any (v : Value) (cs : List Cl) (w : World) (h : Cv w v cs) (hl : cs.length ≤ 1099511627776) :
    Calls Try.prog 50 #[.agg #[v]] w fun e w' => ∃ u, e = .returned (.tuple #[u, .bool (pzB cs)]) ∧ Ow w' w.heap.size u (nlR cs) ∧ Below w.heap.size w w' := by
  obtain ⟨p, cap, rfl⟩ := h.shape
  obtain ⟨W, eW⟩ : ∃ W, w.alloc (.cells #[.slice p cs.length cap] 39) = W := ⟨_, rfl⟩
  have b1 : Below w.heap.size w W := by rw [← eW]; exact (Below.refl _ _).alloc (Nat.le_refl _) _
  have A : Bx W w.heap.size (.slice p cs.length cap) := by rw [← eW]; exact bx_new _ _ _
  have PG := Lib.hid (implIsPuzzle_any _ cs W (h.below b1 (Nat.le_refl _)) hl)
  have HH := Lib.hid h
  have HL := Lib.hid hl
  clear h hl
  cases hB : pzB cs
  · rw [hB] at PG
    have E1 : nlR cs = [] := by unfold nlR; rw [if_neg (by rw [hB]; simp)]
    rw [E1]
    have cA := A.cell
    go_enter Try.func50, Try.ntmps50
    go_wp2_with fail
    clear eW cA
    refine PG.out.mono ?_
    rintro e w1 ⟨rfl, b⟩
    have t := nxt b1 b
    clear b PG
    go_wp2_with fail
    go_ret2
    exact ⟨_, rfl, World.ownsRow_nil _ _ _ _, t⟩
  · rw [hB] at PG
    have HC : Hid (∀ c ∈ cs, clB c = true) := Lib.hid (pzB_iff.1 hB).2
    have H6 : Hid (cs.length ≤ 6) := Lib.hid (pzB_iff.1 hB).1
    have ER : Hid (nlR cs = nlT cs cs.length) := Lib.hid (by unfold nlR; rw [if_pos hB])
    clear hB
    have cA := A.cell
    go_enter Try.func50, Try.ntmps50
    go_wp2_with fail
    clear eW cA
    refine PG.out.mono ?_
    rintro e w1 ⟨rfl, b⟩
    have A1 := A.below b
    have t := nxt b1 b
    have HS := Lib.hid (HH.out.below t (Nat.le_refl _))
    have cA := A1.cell
    clear b PG A
    have CF := Lib.hid (countLeft_any _ cs w1 HS.out HC.out HL.out)
    obtain ⟨N0, eN0⟩ : ∃ N0, (solL cs).length = N0 := ⟨_, rfl⟩
    have HN0 := Lib.hid eN0
    have BN0 : N0 ≤ 2401 := by rw [← eN0]; exact solL_bd cs
    clear eN0
    go_wp2_with fail
    clear cA
    refine CF.out.mono ?_
    rintro e w2 ⟨rfl, b2⟩
    rw [HN0.out]
    have t := nxt t b2
    have A1 := A1.below b2
    have HS := Lib.hid (HS.out.below b2 (Nat.le_refl _))
    obtain ⟨w1, rfl⟩ : ∃ x, x = w2 := ⟨w2, rfl⟩
    have cA := A1.cell
    have zA := A1.lt
    clear b2 CF
    go_wp2_with fail
    clear cA
    go_loopw [5, 17] (fun x i wr => ∃ (k : Nat) (L : List Int), k ≤ cs.length ∧ i = .int .i64 k ∧ Ow wr w1.heap.size x L ∧ Hid (L = nlT cs k) ∧ Below w1.heap.size w1 wr) (fun _ i _ => cs.length - (intOf i).toNat)
    case atStart => exact ⟨0, [], Nat.zero_le _, rfl, ow_empty w1, Lib.hid rfl, (Below.refl _ _).alloc (Nat.le_refl _) _⟩
    case round =>
      obtain ⟨k, L, hk, rfl, ho, HLL, hb⟩ := hrel
      have hz := hb.size
      have A2 : Bx wr w.heap.size (.slice p cs.length cap) := A1.below hb
      have cA := A2.cell
      have h6 := H6.out
      have hLk : L.length ≤ 8 := by rw [HLL.out]; have := nlT_len cs k; omega
      by_cases hlt : k < cs.length
      · have WO := Lib.hid (withoutClue_any p cap k cs wr (HS.out.below hb (Nat.le_refl _)) hlt (by omega))
        have CA := fun (u : Value) (W' : World) (h : Ck W' wr.heap.size u (woL cs k)) => countLeft_any u (woL cs k) W' h.cv (wo_ok HC.out k) (by have := wo_len cs k; omega)
        have BD := solL_bd (woL cs k)
        have EF : nlF cs k = decide ((solL (woL cs k)).length = N0) := by unfold nlF; rw [HN0.out]; congr
        generalize solL (woL cs k) = T at *
        obtain ⟨n, en⟩ : ∃ n, T.length = n := ⟨_, rfl⟩
        rw [en] at EF BD
        have HEN := Lib.hid en
        have HCA := Lib.hid CA
        have HEF := Lib.hid EF
        clear en CA EF
        obtain ⟨px, cx, rfl⟩ := ho.sv.form
        by_cases hn : n = N0
        · have N : Hid (L ++ [(k : Int)] = nlT cs (k + 1)) := Lib.hid (by rw [HLL.out]; exact nlT_yes (by rw [HEF.out]; simpa using hn))
          have dn : ((n : Int) == (N0 : Int)) = true := by simp [hn]
          have HNN := Lib.hid hn
          clear hn HLL HEF
          have HO := Lib.hid ho
          clear ho
          go_wp2_with fail
          refine WO.out.mono ?_
          rintro e w4 ⟨u4, rfl, o4, b4⟩
          go_wp2_with fail
          refine (HCA.out _ _ o4).mono ?_
          rintro e w5 ⟨rfl, b5⟩
          rw [HEN.out]
          have b45 := nxt b4 b5
          have hb5 := hb.trans (b45.mono hz)
          have hz5 := b45.size
          have o5 := HO.out.below b45 (Nat.le_refl _)
          clear o4 b4 b5 b45 cA
          go_wp2_with (at_builtin; refine wpList_append_src rfl _ _ rfl w1.heap.size _ L rfl (o5.below ((Below.refl _ _).alloc (Nat.le_refl _) _) (Nat.le_refl _)) (.slice (some ⟨w5.heap.size, 0, none⟩) 1 1) [(k : Int)] rfl (src_one w5 k) (by simp; omega) (by simp; omega) ?_; intro u6 w6 o6 g6; have b6 := ((Below.refl w5.heap.size w5).alloc (Nat.le_refl _) (.cells #[.int .i64 (k : Int)] 3)); have b7 := Ow.grown (o5.below ((Below.refl _ _).alloc (Nat.le_refl _) _) (Nat.le_refl _)) (by simp; omega) g6)
          have hb7 := hb5.trans ((b6.mono (by omega)).trans b7)
          clear o5 g6 b6 b7
          go_roundw
          case rel => exact ⟨k + 1, _, by omega, by go_num, o6, N, hb7⟩
          case measure => simp [intOf]; omega
        · have N : Hid (L = nlT cs (k + 1)) := Lib.hid (by rw [HLL.out]; exact nlT_no (by rw [HEF.out]; simpa using hn))
          have dn : ((n : Int) == (N0 : Int)) = false := by rw [beq_eq_false_iff_ne]; omega
          clear hn HLL HEF
          have HO := Lib.hid ho
          clear ho
          go_wp2_with fail
          refine WO.out.mono ?_
          rintro e w4 ⟨u4, rfl, o4, b4⟩
          go_wp2_with fail
          refine (HCA.out _ _ o4).mono ?_
          rintro e w5 ⟨rfl, b5⟩
          rw [HEN.out]
          have b45 := nxt b4 b5
          have hb5 := hb.trans (b45.mono hz)
          have o5 := HO.out.below b45 (Nat.le_refl _)
          clear o4 b4 b5 b45 cA
          go_wp2_with fail
          go_roundw
          case rel => exact ⟨k + 1, L, by omega, by go_num, o5, N, hb5⟩
          case measure => simp [intOf]; omega
      · obtain rfl : k = cs.length := by omega
        have HRES : Hid (L = nlR cs) := Lib.hid (by rw [HLL.out]; exact ER.out.symm)
        clear HLL
        go_wp2
        go_ret2
        exact ⟨_, rfl, by rw [← HRES.out]; exact ho.mono t.size, nxt t hb⟩
end Go.Proofs.Ytphjiicdodkfbaa
