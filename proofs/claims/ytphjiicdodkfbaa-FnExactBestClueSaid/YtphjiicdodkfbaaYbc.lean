/-
  BestClue in the model and in the program, by their contracts. Condition: at most 2^40 clues.
-/
import Derived.Test.YtphjiicdodkfbaaYlf
import Derived.Test.YtphjiicdodkfbaaYmx
namespace Go.Proofs.Ytphjiicdodkfbaa
open Go.RowKit

noncomputable def bcG (cs : List Cl) (k : Nat) : Int := ((solL [cA cs k]).length : Nat)
noncomputable def bcL (cs : List Cl) : List Int := (List.range cs.length).map (bcG cs)
theorem bcL_len (cs : List Cl) : (bcL cs).length = cs.length := by simp [bcL]
theorem bcL_at {cs : List Cl} {k : Nat} (h : k < cs.length) : (bcL cs).getD k 0 = bcG cs k := by simp [bcL, List.getD, h]
theorem min_uni {ys : List Int} {k : Nat} {m n : Int} (h : MinTo ys k m) (g : MinTo ys k n) : m = n := by
  obtain ⟨h1, j, hj, ej⟩ := h
  obtain ⟨g1, i, hi, ei⟩ := g
  have a := h1 i hi
  have b := g1 j hj
  omega
noncomputable def mnL (ys : List Int) : Int := @dite Int (∃ m, MinTo ys ys.length m) (Classical.propDecidable _) (fun h => Classical.choose h) (fun _ => 0)
theorem mnL_eq {ys : List Int} {m : Int} (h : MinTo ys ys.length m) : mnL ys = m := by
  unfold mnL
  have he : ∃ m, MinTo ys ys.length m := ⟨m, h⟩
  rw [dif_pos he]
  exact min_uni (Classical.choose_spec he) h
noncomputable def bcB (cs : List Cl) : Bool := pzB cs && decide (0 < cs.length)
noncomputable def bcR (cs : List Cl) : Int := if bcB cs = true then ((idxL (bcL cs) (mnL (bcL cs)) : Nat) : Int) else 0
/-- The first of the least so far. -/
def Bst (ys : List Int) (k best : Nat) (least : Int) : Prop := MinTo ys k least ∧ best < k ∧ ys.getD best 0 = least ∧ ∀ j, j < best → ys.getD j 0 ≠ least
theorem Bst.less {ys : List Int} {k best : Nat} {m x : Int} (h : Bst ys k best m) (hx : ys.getD k 0 = x) (hm : x < m) : Bst ys (k + 1) k x :=
  ⟨h.1.less hx (by omega), by omega, hx, fun j hj => by have := h.1.1 j hj; omega⟩
theorem Bst.more {ys : List Int} {k best : Nat} {m x : Int} (h : Bst ys k best m) (hx : ys.getD k 0 = x) (hm : m ≤ x) : Bst ys (k + 1) best m :=
  ⟨h.1.more hx hm, by have := h.2.1; omega, h.2.2.1, h.2.2.2⟩
theorem Bst.start {ys : List Int} {x : Int} (hx : ys.getD 0 0 = x) : Bst ys 1 0 x :=
  ⟨⟨fun j hj => by obtain rfl : j = 0 := by omega
                   omega, 0, by omega, hx⟩, by omega, hx, fun j hj => by omega⟩
theorem Bst.done {ys : List Int} {best : Nat} {m : Int} (h : Bst ys ys.length best m) : idxL ys (mnL ys) = best := by
  rw [mnL_eq h.1]
  exact idxL_hit h.2.1 h.2.2.1 h.2.2.2

set_option maxHeartbeats 4000000 in
theorem specBestClue_any (v : Value) (cs : List Cl) (w : World) (h : Cv w v cs) (hl : cs.length ≤ 1099511627776) :
    Calls Try.prog 58 #[.agg #[v]] w fun e w' => e = .returned (.tuple #[.int .i64 (bcR cs), .bool (bcB cs)]) ∧ Below w.heap.size w w' := by
  obtain ⟨p, cap, rfl⟩ := h.shape
  obtain ⟨W, eW⟩ : ∃ W, w.alloc (.cells #[.slice p cs.length cap] 39) = W := ⟨_, rfl⟩
  have b1 : Below w.heap.size w W := by rw [← eW]; exact (Below.refl _ _).alloc (Nat.le_refl _) _
  have A : Bx W w.heap.size (.slice p cs.length cap) := by rw [← eW]; exact bx_new _ _ _
  have PG := Lib.hid (pzGood_any _ cs W (h.below b1 (Nat.le_refl _)) hl)
  have HH := Lib.hid h
  have HL := Lib.hid hl
  clear h hl
  cases hB : pzB cs
  · rw [hB] at PG
    have E0 : bcB cs = false := by unfold bcB; rw [hB]; rfl
    have E1 : bcR cs = 0 := by unfold bcR; rw [E0]; rfl
    rw [E0, E1]
    clear E0 E1
    have cA := A.cell
    go_enter Try.func58, Try.ntmps58
    go_wp2_with fail
    clear eW cA
    refine PG.out.mono ?_
    rintro e w1 ⟨rfl, b⟩
    have t := nxt b1 b
    clear b PG
    go_wp2_with fail
    go_ret2
    exact ⟨rfl, t⟩
  · rw [hB] at PG
    have HC : Hid (∀ c ∈ cs, clB c = true) := Lib.hid (pzB_iff.1 hB).2
    have H6 : Hid (cs.length ≤ 6) := Lib.hid (pzB_iff.1 hB).1
    have HF := Lib.hid HH.out.facts
    have EB : Hid (bcB cs = decide (0 < cs.length)) := Lib.hid (by unfold bcB; rw [hB]; rfl)
    clear hB
    by_cases h0 : cs.length = 0
    · have E0 : bcB cs = false := by rw [EB.out, h0]; rfl
      have E1 : bcR cs = 0 := by unfold bcR; rw [E0]; rfl
      have d0 : ((cs.length : Int) == 0) = true := by simp [h0]
      rw [E0, E1]
      clear E0 E1 h0 EB
      have cA := A.cell
      go_enter Try.func58, Try.ntmps58
      go_wp2_with fail
      clear eW cA
      refine PG.out.mono ?_
      rintro e w1 ⟨rfl, b⟩
      have A1 := A.below b
      have t := nxt b1 b
      have cA := A1.cell
      clear b PG A
      go_wp2_with fail
      go_ret2
      exact ⟨rfl, t⟩
    have E0 : bcB cs = true := by rw [EB.out]; simp; omega
    have E1 : Hid (bcR cs = ((idxL (bcL cs) (mnL (bcL cs)) : Nat) : Int)) := Lib.hid (by unfold bcR; rw [E0]; rfl)
    have d0 : ((cs.length : Int) == 0) = false := by rw [beq_eq_false_iff_ne]; omega
    rw [E0]
    obtain ⟨rr, err⟩ : ∃ rr, bcR cs = rr := ⟨_, rfl⟩
    rw [err] at E1 ⊢
    clear E0 EB err
    have cA := A.cell
    go_enter Try.func58, Try.ntmps58
    go_wp2_with fail
    clear eW cA
    refine PG.out.mono ?_
    rintro e w1 ⟨rfl, b⟩
    have A1 := A.below b
    have t := nxt b1 b
    have HS := Lib.hid (HH.out.below t (Nat.le_refl _))
    have cA := A1.cell
    clear b PG A
    go_wp2_with fail
    clear cA
    go_loopw [4, 5, 20] (fun x y i wr => ∃ (k best : Nat) (least : Int), k ≤ cs.length ∧ i = .int .i64 k ∧ x = .int .i64 best ∧ y = .int .i64 least ∧ Hid ((k = 0 ∧ best = 0) ∨ Bst (bcL cs) k best least) ∧ Below w1.heap.size w1 wr) (fun _ _ i _ => cs.length - (intOf i).toNat)
    case atStart => exact ⟨0, 0, 0, Nat.zero_le _, rfl, rfl, rfl, Lib.hid (.inl ⟨rfl, rfl⟩), Below.refl _ _⟩
    case round =>
      obtain ⟨k, best, least, hk, rfl, rfl, rfl, HBS, hb⟩ := hrel
      have hz := hb.size
      have A2 : Bx wr w.heap.size (.slice p cs.length cap) := A1.below hb
      have cA := A2.cell
      have h6 := H6.out
      by_cases hlt : k < cs.length
      · obtain ⟨bb, off, rfl⟩ : ∃ bb off, p = some ⟨bb, off, none⟩ := by
          obtain ⟨q, c, e, _, _, hx⟩ := HS.out
          simp only [Value.slice.injEq, true_and] at e
          obtain ⟨rfl, rfl⟩ := e
          obtain ⟨bb, off, e, _⟩ := hx (by omega)
          exact ⟨bb, off, e⟩
        have hcapk : k + 1 ≤ cap := by have := HF.out.1; omega
        have hkk : ¬ (k + 1 = k) := by omega
        have hck : ¬ (cap = k) := by omega
        have CA := Lib.hid (pzAll_any (.slice (some ⟨bb, off + k * 3, none⟩) 1 (cap - k)) [Go.Proofs.Ytphjiicdodkfbaa.cA cs k] wr ((HS.out.below hb (Nat.le_refl _)).one hlt (by omega) (Nat.le_trans (Nat.sub_le _ _) HF.out.2)) (one_ok HC.out hlt) (by simp))
        have EG : (bcL cs).getD k 0 = ((solL [Go.Proofs.Ytphjiicdodkfbaa.cA cs k]).length : Nat) := bcL_at hlt
        have EG2 : bcG cs k = ((solL [Go.Proofs.Ytphjiicdodkfbaa.cA cs k]).length : Nat) := rfl
        have BD := solL_bd [Go.Proofs.Ytphjiicdodkfbaa.cA cs k]
        generalize solL [Go.Proofs.Ytphjiicdodkfbaa.cA cs k] = T at *
        obtain ⟨n, en⟩ : ∃ n, T.length = n := ⟨_, rfl⟩
        rw [en] at EG EG2 BD
        have HEN := Lib.hid en
        clear en
        clear EG2
        have HEG := Lib.hid EG
        clear EG
        by_cases hk0 : k = 0
        · have N : Hid (Bst (bcL cs) (k + 1) k n) := Lib.hid (by rw [hk0]; exact Bst.start (by rw [← HEG.out, hk0]))
          have dk : ((k : Int) == 0) = true := by simp [hk0]
          clear hk0 HBS HEG
          go_wp2_with fail
          refine CA.out.mono ?_
          rintro e w5 ⟨u5, vals5, rfl, r5, b5⟩
          obtain ⟨p5, c5, e5⟩ := r5.form
          rw [HEN.out] at e5
          subst e5
          have hb5 := hb.trans (b5.mono hz)
          clear r5 b5 cA
          go_wp2_with fail
          go_roundw
          case rel => exact ⟨k + 1, k, n, by omega, by go_num, rfl, rfl, Lib.hid (.inr N.out), hb5⟩
          case measure => simp [intOf]; omega
        · have HB2 : Hid (Bst (bcL cs) k best least) := Lib.hid (by rcases HBS.out with h | h; exact absurd h.1 hk0; exact h)
          have dk : ((k : Int) == 0) = false := by rw [beq_eq_false_iff_ne]; omega
          clear hk0 HBS
          by_cases hlq : (n : Int) < least
          · have N := Lib.hid (HB2.out.less HEG.out hlq)
            clear HB2 HEG
            go_wp2_with fail
            refine CA.out.mono ?_
            rintro e w5 ⟨u5, vals5, rfl, r5, b5⟩
            obtain ⟨p5, c5, e5⟩ := r5.form
            rw [HEN.out] at e5
            subst e5
            have hb5 := hb.trans (b5.mono hz)
            clear r5 b5 cA
            go_wp2_with fail
            go_roundw
            case rel => exact ⟨k + 1, k, n, by omega, by go_num, rfl, rfl, Lib.hid (.inr N.out), hb5⟩
            case measure => simp [intOf]; omega
          · have N := Lib.hid (HB2.out.more HEG.out (by omega))
            clear HB2 HEG
            go_wp2_with fail
            refine CA.out.mono ?_
            rintro e w5 ⟨u5, vals5, rfl, r5, b5⟩
            obtain ⟨p5, c5, e5⟩ := r5.form
            rw [HEN.out] at e5
            subst e5
            have hb5 := hb.trans (b5.mono hz)
            clear r5 b5 cA
            go_wp2_with fail
            go_roundw
            case rel => exact ⟨k + 1, best, least, by omega, by go_num, rfl, rfl, Lib.hid (.inr N.out), hb5⟩
            case measure => simp [intOf]; omega
      · obtain rfl : k = cs.length := by omega
        have RB : Hid ((best : Int) = rr) := Lib.hid (by
          rcases HBS.out with h | h
          · omega
          · rw [E1.out, (show Bst (bcL cs) (bcL cs).length best least by rw [bcL_len]; exact h).done])
        clear HBS
        go_wp2
        go_ret2
        exact ⟨by rw [← RB.out]; rfl, nxt t hb⟩

set_option maxHeartbeats 4000000 in
theorem implBestClue_any (v : Value) (cs : List Cl) (w : World) (h : Cv w v cs) (hl : cs.length ≤ 1099511627776) :
    Calls Try.prog 59 #[.agg #[v]] w fun e w' => e = .returned (.tuple #[.int .i64 (bcR cs), .bool (bcB cs)]) ∧ Below w.heap.size w w' := by
  obtain ⟨p, cap, rfl⟩ := h.shape
  obtain ⟨W, eW⟩ : ∃ W, w.alloc (.cells #[.slice p cs.length cap] 39) = W := ⟨_, rfl⟩
  have b1 : Below w.heap.size w W := by rw [← eW]; exact (Below.refl _ _).alloc (Nat.le_refl _) _
  have A : Bx W w.heap.size (.slice p cs.length cap) := by rw [← eW]; exact bx_new _ _ _
  have PG := Lib.hid (implIsPuzzle_any _ cs W (h.below b1 (Nat.le_refl _)) hl)
  have HH := Lib.hid h
  have HL := Lib.hid hl
  clear h hl
  cases hB : pzB cs
  · rw [hB] at PG
    have E0 : bcB cs = false := by unfold bcB; rw [hB]; rfl
    have E1 : bcR cs = 0 := by unfold bcR; rw [E0]; rfl
    rw [E0, E1]
    clear E0 E1
    have cA := A.cell
    go_enter Try.func59, Try.ntmps59
    go_wp2_with fail
    clear eW cA
    refine PG.out.mono ?_
    rintro e w1 ⟨rfl, b⟩
    have t := nxt b1 b
    clear b PG
    go_wp2_with fail
    go_ret2
    exact ⟨rfl, t⟩
  · rw [hB] at PG
    have HC : Hid (∀ c ∈ cs, clB c = true) := Lib.hid (pzB_iff.1 hB).2
    have H6 : Hid (cs.length ≤ 6) := Lib.hid (pzB_iff.1 hB).1
    have HF := Lib.hid HH.out.facts
    have EB : Hid (bcB cs = decide (0 < cs.length)) := Lib.hid (by unfold bcB; rw [hB]; rfl)
    clear hB
    by_cases h0 : cs.length = 0
    · have E0 : bcB cs = false := by rw [EB.out, h0]; rfl
      have E1 : bcR cs = 0 := by unfold bcR; rw [E0]; rfl
      have d0 : ((cs.length : Int) == 0) = true := by simp [h0]
      rw [E0, E1]
      clear E0 E1 h0 EB
      have cA := A.cell
      go_enter Try.func59, Try.ntmps59
      go_wp2_with fail
      clear eW cA
      refine PG.out.mono ?_
      rintro e w1 ⟨rfl, b⟩
      have A1 := A.below b
      have t := nxt b1 b
      have cA := A1.cell
      clear b PG A
      go_wp2_with fail
      go_ret2
      exact ⟨rfl, t⟩
    have E0 : bcB cs = true := by rw [EB.out]; simp; omega
    have E1 : Hid (bcR cs = ((idxL (bcL cs) (mnL (bcL cs)) : Nat) : Int)) := Lib.hid (by unfold bcR; rw [E0]; rfl)
    have d0 : ((cs.length : Int) == 0) = false := by rw [beq_eq_false_iff_ne]; omega
    rw [E0]
    obtain ⟨rr, err⟩ : ∃ rr, bcR cs = rr := ⟨_, rfl⟩
    rw [err] at E1 ⊢
    clear E0 EB err
    have cA := A.cell
    go_enter Try.func59, Try.ntmps59
    go_wp2_with fail
    clear eW cA
    refine PG.out.mono ?_
    rintro e w1 ⟨rfl, b⟩
    have A1 := A.below b
    have t := nxt b1 b
    have HS := Lib.hid (HH.out.below t (Nat.le_refl _))
    have cA := A1.cell
    clear b PG A
    have zA := A1.lt
    go_wp2_with fail
    clear cA
    go_loopw [4, 19] (fun x i wr => ∃ (k : Nat) (L : List Int), k ≤ cs.length ∧ i = .int .i64 k ∧ Ow wr w1.heap.size x L ∧ Hid (L = (List.range k).map (bcG cs)) ∧ Below w1.heap.size w1 wr) (fun _ i _ => cs.length - (intOf i).toNat)
    case atStart => exact ⟨0, [], Nat.zero_le _, rfl, ow_empty w1, Lib.hid rfl, (Below.refl _ _).alloc (Nat.le_refl _) _⟩
    case round =>
      obtain ⟨k, L, hk, rfl, ho, HLL, hb⟩ := hrel
      have hz := hb.size
      have A2 : Bx wr w.heap.size (.slice p cs.length cap) := A1.below hb
      have cA := A2.cell
      have h6 := H6.out
      by_cases hlt : k < cs.length
      · obtain ⟨bb, off, rfl⟩ : ∃ bb off, p = some ⟨bb, off, none⟩ := by
          obtain ⟨q, c, e, _, _, hx⟩ := HS.out
          simp only [Value.slice.injEq, true_and] at e
          obtain ⟨rfl, rfl⟩ := e
          obtain ⟨bb, off, e, _⟩ := hx (by omega)
          exact ⟨bb, off, e⟩
        have hcapk : k + 1 ≤ cap := by have := HF.out.1; omega
        have hkk : ¬ (k + 1 = k) := by omega
        have hck : ¬ (cap = k) := by omega
        have CA := Lib.hid (countLeft_any (.slice (some ⟨bb, off + k * 3, none⟩) 1 1) [Go.Proofs.Ytphjiicdodkfbaa.cA cs k] wr ((HS.out.below hb (Nat.le_refl _)).one hlt (Nat.le_refl _) (by unfold maxLen; omega)) (one_ok HC.out hlt) (by simp))
        have EG : (bcL cs).getD k 0 = ((solL [Go.Proofs.Ytphjiicdodkfbaa.cA cs k]).length : Nat) := bcL_at hlt
        have EG2 : bcG cs k = ((solL [Go.Proofs.Ytphjiicdodkfbaa.cA cs k]).length : Nat) := rfl
        have BD := solL_bd [Go.Proofs.Ytphjiicdodkfbaa.cA cs k]
        generalize solL [Go.Proofs.Ytphjiicdodkfbaa.cA cs k] = T at *
        obtain ⟨n, en⟩ : ∃ n, T.length = n := ⟨_, rfl⟩
        rw [en] at EG EG2 BD
        have HEN := Lib.hid en
        clear en
        have hLk : L.length ≤ 8 := by rw [HLL.out]; simp; omega
        have N0 := range_snoc (bcG cs) k
        rw [← HLL.out, EG2] at N0
        have N := Lib.hid N0
        clear N0 EG EG2 BD
        obtain ⟨px, cx, rfl⟩ := ho.sv.form
        have HO := Lib.hid ho
        clear ho
        go_wp2_with (first
          | (go_at_call 85; refine CA.out.mono ?_; rintro e w5 ⟨rfl, b5⟩; rw [HEN.out]; have hz5 := b5.size; have o5 := HO.out.below b5 (Nat.le_refl _); have hb5 := hb.trans (b5.mono hz); clear b5)
          | (at_builtin; refine wpList_append_src rfl _ _ rfl w1.heap.size _ L rfl (o5.below ((Below.refl _ _).alloc (Nat.le_refl _) _) (Nat.le_refl _)) (.slice (some ⟨w5.heap.size, 0, none⟩) 1 1) [(n : Int)] rfl (src_one w5 n) (by simp; omega) (by simp; omega) ?_; intro u6 w6 o6 g6; have b6 := ((Below.refl w5.heap.size w5).alloc (Nat.le_refl _) (.cells #[.int .i64 (n : Int)] 3)); have b7 := Ow.grown (o5.below ((Below.refl _ _).alloc (Nat.le_refl _) _) (Nat.le_refl _)) (by simp; omega) g6))
        have hb7 := hb5.trans ((b6.mono (by omega)).trans b7)
        clear o5 g6 b6 b7 cA
        go_roundw
        case rel => exact ⟨k + 1, _, by omega, by go_num, o6, N, hb7⟩
        case measure => simp [intOf]; omega
      · obtain rfl : k = cs.length := by omega
        have HLL2 : Hid (L = bcL cs) := Lib.hid HLL.out
        have hLL : L.length = cs.length := by rw [HLL.out]; simp
        have MI := fun W hb' => Lib.hid (min_any _ L W (ho.sv.below hb' (Nat.le_refl _)) (by omega) (by omega))
        have IX := fun (m : Int) (hm : MinTo L L.length m) W hb' => Lib.hid (index_any _ L m W (ho.sv.below hb' (Nat.le_refl _)) (by omega) hm.2)
        have HR := Lib.hid (fun (m : Int) (hm : MinTo L L.length m) => (show ((idxL L m : Nat) : Int) = rr by rw [E1.out, ← HLL2.out, mnL_eq hm]))
        have HMI := Lib.hid (MI wr (Below.refl _ _))
        have HIX := Lib.hid (fun m hm => (IX m hm wr (Below.refl _ _)).out)
        clear HLL HLL2 hLL MI IX ho
        go_wp2_with fail
        refine HMI.out.out.mono ?_
        rintro e w5 ⟨⟨m, rfl, hm⟩, rfl⟩
        go_wp2_with fail
        refine (HIX.out m hm).mono ?_
        rintro e w6 ⟨rfl, rfl⟩
        have RB := Lib.hid (HR.out m hm)
        clear hm
        go_wp2_with fail
        go_ret2
        exact ⟨by rw [← RB.out]; rfl, nxt t hb⟩
end Go.Proofs.Ytphjiicdodkfbaa
