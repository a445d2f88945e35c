/-
  LeftByClues in the model and in the program, by their contracts. Condition: at most 2^40 clues.
-/
import Derived.Test.YtphjiicdodkfbaaYsl
import Derived.Test.YtphjiicdodkfbaaLpz
namespace Go.Proofs.Ytphjiicdodkfbaa
open Go.RowKit

noncomputable def lfG (cs : List Cl) (k : Nat) : Int := ((solL (cs.take k)).length : Nat)
noncomputable def lfR (cs : List Cl) : List Int := if pzB cs = true then (List.range (cs.length + 1)).map (lfG cs) else []
theorem lf_bd (cs : List Cl) : (lfR cs).length ≤ 1099511627776 := by
  unfold lfR
  split
  · next h => have := (pzB_iff.1 h).1; simp; omega
  · simp
theorem range_snoc {α : Type} (G : Nat → α) (k : Nat) : (List.range k).map G ++ [G k] = (List.range (k + 1)).map G := by rw [List.range_succ, List.map_append]; rfl
theorem map_add0 (q : Option Addr) : Option.map (fun x : Addr => x.add 0) q = q := by cases q <;> simp [Addr.add]

set_option maxHeartbeats 4000000 in
theorem specLeftByClues_any (v : Value) (cs : List Cl) (w : World) (h : Cv w v cs) (hl : cs.length ≤ 1099511627776) :
    Calls Try.prog 56 #[.agg #[v]] w fun e w' => ∃ u, e = .returned (.tuple #[u, .bool (pzB cs)]) ∧ Ow w' w.heap.size u (lfR cs) ∧ Below w.heap.size w w' := by
  obtain ⟨p, cap, rfl⟩ := h.shape
  obtain ⟨W, eW⟩ : ∃ W, w.alloc (.cells #[.slice p cs.length cap] 39) = W := ⟨_, rfl⟩
  have b1 : Below w.heap.size w W := by rw [← eW]; exact (Below.refl _ _).alloc (Nat.le_refl _) _
  have A : Bx W w.heap.size (.slice p cs.length cap) := by rw [← eW]; exact bx_new _ _ _
  have PG := Lib.hid (pzGood_any _ cs W (h.below b1 (Nat.le_refl _)) hl)
  have HH := Lib.hid h
  have HL := Lib.hid hl
  clear h hl
  cases hB : pzB cs
  · rw [hB] at PG
    have E1 : lfR cs = [] := by unfold lfR; rw [if_neg (by rw [hB]; simp)]
    rw [E1]
    have cA := A.cell
    go_enter Try.func56, Try.ntmps56
    go_wp2_with fail
    clear eW cA
    refine PG.out.mono ?_
    rintro e w1 ⟨rfl, b⟩
    have t := nxt b1 b
    clear b PG
    go_wp2_with fail
    go_ret2
    exact ⟨_, rfl, World.ownsRow_nil _ _ _ _, t⟩
  · rw [hB] at PG
    have HC : Hid (∀ c ∈ cs, clB c = true) := Lib.hid (pzB_iff.1 hB).2
    have H6 : Hid (cs.length ≤ 6) := Lib.hid (pzB_iff.1 hB).1
    have ER : Hid (lfR cs = (List.range (cs.length + 1)).map (lfG cs)) := Lib.hid (by unfold lfR; rw [if_pos hB])
    have HF := Lib.hid HH.out.facts
    clear hB
    have cA := A.cell
    go_enter Try.func56, Try.ntmps56
    go_wp2_with fail
    clear eW cA
    refine PG.out.mono ?_
    rintro e w1 ⟨rfl, b⟩
    have A1 := A.below b
    have t := nxt b1 b
    have HS := Lib.hid (HH.out.below t (Nat.le_refl _))
    have cA := A1.cell
    clear b PG A
    have hadd := map_add0
    go_wp2_with fail
    clear cA
    go_loopw [4, 5] (fun x i wr => ∃ (k : Nat) (L : List Int), k ≤ cs.length + 1 ∧ i = .int .i64 k ∧ Ow wr w1.heap.size x L ∧ Hid (L = (List.range k).map (lfG cs)) ∧ Below w1.heap.size w1 wr) (fun _ i _ => cs.length + 1 - (intOf i).toNat)
    case atStart => exact ⟨0, [], Nat.zero_le _, rfl, World.ownsRow_nil _ _ _ _, Lib.hid rfl, Below.refl _ _⟩
    case round =>
      obtain ⟨k, L, hk, rfl, ho, HLL, hb⟩ := hrel
      have hz := hb.size
      have A2 : Bx wr w.heap.size (.slice p cs.length cap) := A1.below hb
      have cA := A2.cell
      have hLk : L.length ≤ 8 := by rw [HLL.out]; simp; have := H6.out; omega
      have h6 := H6.out
      by_cases hlt : k ≤ cs.length
      · have N0 := range_snoc (lfG cs) k
        rw [← HLL.out] at N0
        have CA := Lib.hid (pzAll_any (.slice p k cap) (cs.take k) wr ((HS.out.below hb (Nat.le_refl _)).take hlt (Nat.le_trans hlt HF.out.1) HF.out.2) (sub_ok HC.out (fun c hc => List.mem_of_mem_take hc)) (by rw [List.length_take]; have := HL.out; omega))
        have EG : lfG cs k = ((solL (cs.take k)).length : Nat) := rfl
        generalize solL (cs.take k) = T at *
        obtain ⟨n, en⟩ : ∃ n, T.length = n := ⟨_, rfl⟩
        rw [en] at EG
        rw [EG] at N0
        have N := Lib.hid N0
        have hkc : k ≤ cap := by have := HF.out.1; omega
        have HEN := Lib.hid en
        clear N0 EG en
        obtain ⟨px, cx, rfl⟩ := ho.sv.form
        have HO := Lib.hid ho
        clear ho
        go_wp2_with (first
          | (go_at_call 75; refine CA.out.mono ?_; rintro e w5 ⟨u5, vals5, rfl, r5, b5⟩; obtain ⟨p5, c5, e5⟩ := r5.form; rw [HEN.out] at e5; subst e5; have hz5 := b5.size; have o5 := HO.out.below b5 (Nat.le_refl _); have hb5 := hb.trans (b5.mono hz); clear r5 b5)
          | (at_builtin; refine wpList_append_src rfl _ _ rfl w1.heap.size _ L rfl (o5.below ((Below.refl _ _).alloc (Nat.le_refl _) _) (Nat.le_refl _)) (.slice (some ⟨w5.heap.size, 0, none⟩) 1 1) [(n : Int)] rfl (src_one w5 n) (by simp; omega) (by simp; omega) ?_; intro u6 w6 o6 g6; have b6 := ((Below.refl w5.heap.size w5).alloc (Nat.le_refl _) (.cells #[.int .i64 (n : Int)] 3)); have b7 := Ow.grown (o5.below ((Below.refl _ _).alloc (Nat.le_refl _) _) (Nat.le_refl _)) (by simp; omega) g6))
        have hb7 := hb5.trans ((b6.mono (by omega)).trans b7)
        clear o5 g6 b6 b7 cA
        go_roundw
        case rel => exact ⟨k + 1, _, by omega, by go_num, o6, N, hb7⟩
        case measure => simp [intOf]; omega
      · obtain rfl : k = cs.length + 1 := by omega
        have hres := HLL.out
        have HRES : Hid (L = lfR cs) := Lib.hid (by rw [hres]; exact ER.out.symm)
        clear HLL hres
        go_wp2
        go_ret2
        exact ⟨_, rfl, by rw [← HRES.out]; exact ho.mono t.size, nxt t hb⟩

set_option maxHeartbeats 4000000 in
theorem implLeftByClues_any (v : Value) (cs : List Cl) (w : World) (h : Cv w v cs) (hl : cs.length ≤ 1099511627776) :
    Calls Try.prog 57 #[.agg #[v]] w fun e w' => ∃ u, e = .returned (.tuple #[u, .bool (pzB cs)]) ∧ Ow w' w.heap.size u (lfR cs) ∧ Below w.heap.size w w' := by
  obtain ⟨p, cap, rfl⟩ := h.shape
  obtain ⟨W, eW⟩ : ∃ W, w.alloc (.cells #[.slice p cs.length cap] 39) = W := ⟨_, rfl⟩
  have b1 : Below w.heap.size w W := by rw [← eW]; exact (Below.refl _ _).alloc (Nat.le_refl _) _
  have A : Bx W w.heap.size (.slice p cs.length cap) := by rw [← eW]; exact bx_new _ _ _
  have PG := Lib.hid (implIsPuzzle_any _ cs W (h.below b1 (Nat.le_refl _)) hl)
  have HH := Lib.hid h
  have HL := Lib.hid hl
  clear h hl
  cases hB : pzB cs
  · rw [hB] at PG
    have E1 : lfR cs = [] := by unfold lfR; rw [if_neg (by rw [hB]; simp)]
    rw [E1]
    have cA := A.cell
    go_enter Try.func57, Try.ntmps57
    go_wp2_with fail
    clear eW cA
    refine PG.out.mono ?_
    rintro e w1 ⟨rfl, b⟩
    have t := nxt b1 b
    clear b PG
    go_wp2_with fail
    go_ret2
    exact ⟨_, rfl, World.ownsRow_nil _ _ _ _, t⟩
  · rw [hB] at PG
    have HC : Hid (∀ c ∈ cs, clB c = true) := Lib.hid (pzB_iff.1 hB).2
    have H6 : Hid (cs.length ≤ 6) := Lib.hid (pzB_iff.1 hB).1
    have ER : Hid (lfR cs = (List.range (cs.length + 1)).map (lfG cs)) := Lib.hid (by unfold lfR; rw [if_pos hB])
    have HF := Lib.hid HH.out.facts
    clear hB
    have cA := A.cell
    go_enter Try.func57, Try.ntmps57
    go_wp2_with fail
    clear eW cA
    refine PG.out.mono ?_
    rintro e w1 ⟨rfl, b⟩
    have A1 := A.below b
    have t := nxt b1 b
    have HS := Lib.hid (HH.out.below t (Nat.le_refl _))
    have cA := A1.cell
    clear b PG A
    have hadd := map_add0
    have h6 := H6.out
    have zA := A1.lt
    go_wp2_with fail
    clear cA
    go_loopw [4, 14] (fun x i wr => ∃ (k : Nat) (L : List Int), k ≤ cs.length + 1 ∧ i = .int .i64 k ∧ Ow wr w1.heap.size x L ∧ Hid (L = (List.range k).map (lfG cs)) ∧ Below w1.heap.size w1 wr) (fun _ i _ => cs.length + 1 - (intOf i).toNat)
    case atStart => exact ⟨0, [], Nat.zero_le _, rfl, ow_empty w1, Lib.hid rfl, (Below.refl _ _).alloc (Nat.le_refl _) _⟩
    case round =>
      obtain ⟨k, L, hk, rfl, ho, HLL, hb⟩ := hrel
      have hz := hb.size
      have A2 : Bx wr w.heap.size (.slice p cs.length cap) := A1.below hb
      have cA := A2.cell
      have hLk : L.length ≤ 8 := by rw [HLL.out]; simp; have := H6.out; omega
      have h6 := H6.out
      by_cases hlt : k ≤ cs.length
      · have N0 := range_snoc (lfG cs) k
        rw [← HLL.out] at N0
        have CA := Lib.hid (countLeft_any (.slice p k k) (cs.take k) wr ((HS.out.below hb (Nat.le_refl _)).take hlt (Nat.le_refl _) (by unfold maxLen; omega)) (sub_ok HC.out (fun c hc => List.mem_of_mem_take hc)) (by rw [List.length_take]; have := HL.out; omega))
        have EG : lfG cs k = ((solL (cs.take k)).length : Nat) := rfl
        generalize solL (cs.take k) = T at *
        obtain ⟨n, en⟩ : ∃ n, T.length = n := ⟨_, rfl⟩
        rw [en] at EG
        rw [EG] at N0
        have N := Lib.hid N0
        have hkc : k ≤ cap := by have := HF.out.1; omega
        have HEN := Lib.hid en
        clear N0 EG en
        obtain ⟨px, cx, rfl⟩ := ho.sv.form
        have HO := Lib.hid ho
        clear ho
        go_wp2_with (first
          | (go_at_call 85; refine CA.out.mono ?_; rintro e w5 ⟨rfl, b5⟩; rw [HEN.out]; have hz5 := b5.size; have o5 := HO.out.below b5 (Nat.le_refl _); have hb5 := hb.trans (b5.mono hz); clear b5)
          | (at_builtin; refine wpList_append_src rfl _ _ rfl w1.heap.size _ L rfl (o5.below ((Below.refl _ _).alloc (Nat.le_refl _) _) (Nat.le_refl _)) (.slice (some ⟨w5.heap.size, 0, none⟩) 1 1) [(n : Int)] rfl (src_one w5 n) (by simp; omega) (by simp; omega) ?_; intro u6 w6 o6 g6; have b6 := ((Below.refl w5.heap.size w5).alloc (Nat.le_refl _) (.cells #[.int .i64 (n : Int)] 3)); have b7 := Ow.grown (o5.below ((Below.refl _ _).alloc (Nat.le_refl _) _) (Nat.le_refl _)) (by simp; omega) g6))
        have hb7 := hb5.trans ((b6.mono (by omega)).trans b7)
        clear o5 g6 b6 b7 cA
        go_roundw
        case rel => exact ⟨k + 1, _, by omega, by go_num, o6, N, hb7⟩
        case measure => simp [intOf]; omega
      · obtain rfl : k = cs.length + 1 := by omega
        have hres := HLL.out
        have HRES : Hid (L = lfR cs) := Lib.hid (by rw [hres]; exact ER.out.symm)
        clear HLL hres
        go_wp2
        go_ret2
        exact ⟨_, rfl, by rw [← HRES.out]; exact ho.mono t.size, nxt t hb⟩
end Go.Proofs.Ytphjiicdodkfbaa
