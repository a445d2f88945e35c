/-
  The program's tests of cards, by their contracts. Condition: at most 2^40 lists of at most 2^40 numbers.
-/
import Derived.Test.YtpolobjlihhjbaaKgd
import Derived.Test.YtpolobjlihhjbaaQow
import Derived.Laws.RangeAny
namespace Go.Proofs.Ytpolobjlihhjbaa
open Go.RowKit

set_option maxHeartbeats 1000000 in
theorem areNumbers_any (n : Int) (w : World) : Calls Try.prog 66 #[.int .i64 n] w fun e w' => e = .returned (.bool (inB n 1 128)) ∧ w = w' := by
  have hi : inB n 1 128 = (decide (1 ≤ n) && decide (n ≤ 128)) := rfl
  have HI := Lib.hid hi
  clear hi
  go_enter Try.func66, Try.ntmps66
  go_wp2
  all_goals (go_ret; exact ⟨ret_bool (by rw [HI.out]; simp; try omega), rfl⟩)

set_option maxHeartbeats 1000000 in
theorem areSomeOf_any (v : Value) (xs : List Int) (m : Int) (w : World) (h : Sv w v xs) (hl : xs.length ≤ 1099511627776) (hm : m ≤ 1099511627776) :
    Calls Try.prog 67 #[.int .i64 m, v] w fun e w' => e = .returned (.bool (risB xs 0 (m - 1))) ∧ w = w' := by
  obtain ⟨p, cap, rfl, hx⟩ := h
  go_enter Try.func67, Try.ntmps67
  go_wp2
  go_loop [5, 10] (fun f i => ∃ (k : Nat) (fr : Int), k ≤ xs.length ∧ i = .int .i64 k ∧ f = .int .i64 fr ∧ fr = freeAt xs k ∧ RisTo xs 0 (m - 1) k ∧ (0 < k → fr ≤ m) ∧ 0 ≤ fr) (fun _ i => xs.length - (intOf i).toNat)
  case atStart => exact ⟨0, 0, Nat.zero_le _, rfl, rfl, rfl, ⟨fun j hj => by omega, fun j hj => by omega⟩, fun h => by omega, by omega⟩
  case round =>
    obtain ⟨k, fr, hk, rfl, rfl, hfr, ha, hfm, hf0⟩ := hrel
    have FR := Lib.hid hfr
    clear hfr
    by_cases hlt : k < xs.length
    · obtain ⟨b, off, rfl, hbl, hc⟩ := hx (by omega)
      have hcell := hc k hlt
      obtain ⟨x, ex⟩ : ∃ x, xs.getD k 0 = x := ⟨_, rfl⟩
      rw [ex] at hcell
      have EX := Lib.hid ex
      clear hc hx ex
      by_cases h1 : x < fr
      · have d1 : decide (x < fr) = true := by simpa using h1
        go_wp2
        go_ret
        exact ⟨ret_bool (by rw [free_low hlt (by rw [EX.out, ← FR.out]; exact h1)]), rfl⟩
      · have d1 : decide (x < fr) = false := by simpa using h1
        by_cases h2 : m ≤ x
        · go_wp2
          go_ret
          exact ⟨ret_bool (by rw [risB_out hlt (.inr (by rw [EX.out]; omega))]), rfl⟩
        · go_wp2
          go_round
          case rel => exact ⟨k + 1, x + 1, by omega, by go_num, by go_num, by rw [free_next, EX.out], free_succ ha (by rw [EX.out, ← FR.out]; omega) (by rw [EX.out]; omega) (by rw [← FR.out]; omega), by omega, by omega⟩
          case measure => simp [intOf]; omega
    · clear hx
      go_wp2
      go_ret
      have : k = xs.length := by omega
      subst this
      exact ⟨ret_bool (by rw [risB_yes ha]), rfl⟩

set_option maxHeartbeats 2000000 in
set_option maxRecDepth 20000 in
theorem implAreCards_any (n : Int) (v : Value) (Ls : List (List Int)) (w : World) (h : Svv w v Ls) (hl : Ls.length ≤ 1099511627776) (hx : ∀ j, j < Ls.length → (rowL Ls j).length ≤ 1099511627776) :
    Calls Try.prog 23 #[.agg #[.int .i64 n, v]] w fun e w' => e = .returned (.bool (caB n Ls)) ∧ Below w.heap.size w w' := by
  obtain ⟨p, cap, rfl⟩ := svv_form h
  have hb0 : Below w.heap.size w (w.alloc (.cells #[.int .i64 n, .slice p Ls.length cap] 27)) := (Below.refl _ w).alloc (Nat.le_refl _) _
  have H := Lib.hid (h.below hb0 (Nat.le_refl _))
  have HX := Lib.hid hx
  clear h hx
  by_cases hm : inB n 1 128 = true
  · have hmb := inB_iff.1 hm
    obtain ⟨hm0, hm1⟩ := hmb
    by_cases h12 : Ls.length ≤ 12
    · go_enter Try.func23, Try.ntmps23
      go_wp2_with (go_at_call 66; refine (areNumbers_any _ _).mono ?_; rintro e w' ⟨rfl, rfl⟩)
      go_loop [18] (fun i => ∃ k : Nat, k ≤ Ls.length ∧ i = .int .i64 k ∧ Hid (CaTo n Ls k)) (fun i => Ls.length - (intOf i).toNat)
      case atStart => exact ⟨0, Nat.zero_le _, rfl, Lib.hid (CaTo.zero _ _)⟩
      case round =>
        obtain ⟨k, hk, rfl, HC⟩ := hrel
        by_cases hlt : k < Ls.length
        · obtain ⟨b, off, rfl, hbl, hr⟩ := svv_row H.out (by omega)
          obtain ⟨u, hcell, hs⟩ := hr k hlt
          have hlen := HX.out k hlt
          have AS := Lib.hid (areSomeOf_any u (rowL Ls k) n _ hs hlen (by omega))
          clear hr hs
          cases hb : risB (rowL Ls k) 0 (n - 1) with
          | true =>
            rw [hb] at AS
            have HB := Lib.hid hb
            clear hb
            go_wp2_with (go_at_call 67; refine AS.out.mono ?_; rintro e w2 ⟨rfl, rfl⟩)
            go_round
            case rel => exact ⟨k + 1, by omega, by go_num, Lib.hid (HC.out.succ HB.out)⟩
            case measure => simp only [intOf]; omega
          | false =>
            rw [hb] at AS
            have HN := Lib.hid (ca_not hlt hb)
            clear hb
            go_wp2_with (go_at_call 67; refine AS.out.mono ?_; rintro e w2 ⟨rfl, rfl⟩)
            go_ret
            exact ⟨ret_bool HN.out.symm, hb0⟩
        · have hke : k = Ls.length := by omega
          subst hke
          have HN := Lib.hid (ca_all ⟨hm0, hm1⟩ h12 HC.out)
          go_wp2
          go_ret
          exact ⟨ret_bool HN.out.symm, hb0⟩
    · have HN := Lib.hid (ca_size (n := n) (Ls := Ls) (fun g => h12 g.2))
      have d : decide (12 < (Ls.length : Int)) = true := by simp; omega
      go_enter Try.func23, Try.ntmps23
      go_wp2_with (go_at_call 66; refine (areNumbers_any _ _).mono ?_; rintro e w' ⟨rfl, rfl⟩)
      go_ret
      exact ⟨ret_bool HN.out.symm, hb0⟩
  · have HN := Lib.hid (ca_size (n := n) (Ls := Ls) (fun g => hm (inB_iff.2 g.1)))
    have hm : inB n 1 128 = false := by simpa using hm
    go_enter Try.func23, Try.ntmps23
    go_wp2_with (go_at_call 66; refine (areNumbers_any _ _).mono ?_; rintro e w' ⟨rfl, rfl⟩)
    go_ret
    exact ⟨ret_bool HN.out.symm, hb0⟩

set_option maxHeartbeats 1000000 in
theorem hasCard_any (n k : Int) (v : Value) (Ls : List (List Int)) (w : World) (h : Svv w v Ls) :
    Calls Try.prog 93 #[.agg #[.int .i64 n, v], .int .i64 k] w fun e w' => e = .returned (.bool (inB k 0 (Ls.length - 1))) ∧ Below w.heap.size w w' := by
  obtain ⟨p, cap, rfl⟩ := svv_form h
  clear h
  have hb0 : Below w.heap.size w (w.alloc (.cells #[.int .i64 n, .slice p Ls.length cap] 27)) := (Below.refl _ w).alloc (Nat.le_refl _) _
  have hi : inB k 0 (Ls.length - 1) = (decide (0 ≤ k) && decide (k < Ls.length)) := by
    have e : decide (k ≤ (Ls.length : Int) - 1) = decide (k < Ls.length) := by rw [decide_eq_decide]; omega
    rw [← e]; rfl
  have HI := Lib.hid hi
  clear hi
  go_enter Try.func93, Try.ntmps93
  go_wp2
  all_goals (go_ret; exact ⟨ret_bool (by rw [HI.out]; simp; try omega), hb0⟩)

/-- A text has for each card y or n. -/
noncomputable def ynB (Ls : List (List Int)) (a : List UInt8) : Bool := @decide (a.length = Ls.length ∧ YnTo a a.length) (Classical.propDecidable _)
theorem ynB_no {Ls : List (List Int)} {a : List UInt8} {k : Nat} (hk : k < a.length) (h : ¬ (a.getD k 0 = 121 ∨ a.getD k 0 = 110)) : ynB Ls a = false := by
  simp only [ynB, decide_eq_false_iff_not]; exact fun g => h (g.2 k hk)
theorem ynB_all {Ls : List (List Int)} {a : List UInt8} (h : YnTo a a.length) : ynB Ls a = ((a.length : Int) == (Ls.length : Int)) := by
  rw [Bool.eq_iff_iff, beq_iff_eq]
  simp only [ynB, decide_eq_true_eq]
  exact ⟨fun g => by omega, fun g => ⟨by omega, h⟩⟩
theorem ask_yn {n : Int} {Ls : List (List Int)} {a : List UInt8} : askB n Ls a = (caB n Ls && ynB Ls a) := by
  rw [Bool.eq_iff_iff, Bool.and_eq_true, askB_iff, caB_iff]
  simp only [ynB, decide_eq_true_eq]

set_option maxHeartbeats 4000000 in
set_option maxRecDepth 20000 in
theorem areAnswers_any (n : Int) (v : Value) (Ls : List (List Int)) (a : List UInt8) (w : World) (h : Svv w v Ls) :
    Calls Try.prog 85 #[.agg #[.int .i64 n, v], .string (bstr a)] w fun e w' => e = .returned (.bool (ynB Ls a)) ∧ Below w.heap.size w w' := by
  obtain ⟨p, cap, rfl⟩ := svv_form h
  clear h
  have hsz := bstr_size a
  obtain ⟨s, es⟩ : ∃ s, bstr a = s := ⟨_, rfl⟩
  have ES := Lib.hid es
  rw [es] at hsz ⊢
  clear es
  obtain ⟨W, eW⟩ : ∃ W, w.alloc (.cells #[.int .i64 n, .slice p Ls.length cap] 27) = W := ⟨_, rfl⟩
  have hb0 : Below w.heap.size w W := by rw [← eW]; exact (Below.refl _ w).alloc (Nat.le_refl _) _
  have HZ : Hid (W.heap.size = w.heap.size + 1) := Lib.hid (by rw [← eW]; simp)
  have C1 : W.cell? ⟨w.heap.size, 1, none⟩ = some (.slice p Ls.length cap) := by rw [← eW]; exact card_v w n _
  have EW := Lib.hid eW
  clear eW
  go_enter Try.func85, Try.ntmps85
  go_wp2
  rw [EW.out]
  go_loopw [6] (fun _ wr => ∃ k : Nat, k ≤ a.length ∧ Hid (YnTo a k) ∧ wr.heap[(w.heap.size + 1)]? = some (.stringIter s k) ∧ Below w.heap.size w wr ∧ wr.cell? ⟨w.heap.size, 1, none⟩ = some (.slice p Ls.length cap)) (fun _ wr => a.length - wr.iterPos (w.heap.size + 1))
  case atStart => exact ⟨0, Nat.zero_le _, Lib.hid (YnTo.zero _), by have := W.iter_heap s 0; rwa [HZ.out] at this, hb0.alloc hb0.size _, by
    rw [← C1]; exact ((Below.refl (w.heap.size + 1) W).alloc (by rw [HZ.out]; exact Nat.le_refl _) _).cell (p := ⟨w.heap.size, 1, none⟩) (Nat.lt_succ_self _)⟩
  case round =>
    clear C1 hb0
    obtain ⟨k, hk, HY, hI, hb, C1⟩ := hrel
    have hp := iterPos_of hI
    by_cases hlt : k < a.length
    · have hks : k < s.size := by omega
      have hbyte : ∀ h : k < (bstr a).size, (bstr a)[k]'h = a.getD k 0 := fun h => byte_is a k hlt h
      rw [ES.out] at hbyte
      by_cases hy : a.getD k 0 = 121 ∨ a.getD k 0 = 110
      · have e0 : (s[k]'hks).toNat < 128 := by
          rw [hbyte hks]
          rcases hy with e | e <;> rw [e] <;> decide
        have hnx : ∀ ty, (Instr.next (.pointer (some ⟨(w.heap.size + 1), 0, none⟩)) true ty).run Try.prog wr = _ := fun ty => Lib.run_next_ascii_at wr (w.heap.size + 1) s k ty hI hks e0
        have hI2 := Lib.iterAt_heap wr (w.heap.size + 1) s k (k + 1) hI
        have hb2 := Lib.below_iterAt hb (k := (w.heap.size + 1)) (by have := HZ.out; omega) s (k + 1)
        have C2 : (wr.iterAt (w.heap.size + 1) s (k + 1)).cell? ⟨w.heap.size, 1, none⟩ = some (.slice p Ls.length cap) := by
          rw [← C1]; simp only [World.cell?]; rw [Lib.iterAt_other _ _ _ _ _ (by have := HZ.out; omega)]
        obtain ⟨w2, e2⟩ : ∃ w2, wr.iterAt (w.heap.size + 1) s (k + 1) = w2 := ⟨_, rfl⟩
        rw [e2] at hnx hI2 hb2 C2
        rw [hbyte hks] at hnx
        have HN := Lib.hid (HY.out.succ hy)
        clear e0 e2 hI hb hks C1 hbyte
        rcases hy with e | e
        all_goals
          rw [e] at hnx
          clear e
          go_wp2
          go_roundw
          case rel => exact ⟨k + 1, by omega, HN, hI2, hb2, C2⟩
          case measure => rw [hp, iterPos_of hI2]; omega
      · have hnx : ∀ ty, (Instr.next (.pointer (some ⟨(w.heap.size + 1), 0, none⟩)) true ty).run Try.prog wr = _ := fun ty => Lib.run_next_any_at wr (w.heap.size + 1) s k ty hI hks
        have hb2 := Lib.below_iterAt hb (k := (w.heap.size + 1)) (by have := HZ.out; omega) s (k + (Utf8.decode s k).2)
        obtain ⟨w2, e2⟩ : ∃ w2, wr.iterAt (w.heap.size + 1) s (k + (Utf8.decode s k).2) = w2 := ⟨_, rfl⟩
        have hr : ¬ (Utf8.decode s k).1 = 121 ∧ ¬ (Utf8.decode s k).1 = 110 := by
          by_cases h7 : (s[k]'hks).toNat < 128
          · rw [decode_ascii s k hks h7, hbyte hks]
            exact ⟨fun e => hy (.inl (UInt8.toNat_inj.1 (by have : (121 : UInt8).toNat = 121 := rfl; omega))), fun e => hy (.inr (UInt8.toNat_inj.1 (by have : (110 : UInt8).toNat = 110 := rfl; omega)))⟩
          · have := (decode_high s k hks (by omega)).1
            omega
        rw [e2] at hnx hb2
        obtain ⟨r, er⟩ : ∃ r, (Utf8.decode s k).1 = r := ⟨_, rfl⟩
        rw [er] at hnx hr
        have AN := Lib.hid (ynB_no (Ls := Ls) hlt hy)
        have m1 : (((r : Nat) : Int) != 121) = true := by simp; omega
        have m2 : (((r : Nat) : Int) != 110) = true := by simp; omega
        clear hy er e2 hI hb hks hbyte C1
        go_wp2
        go_ret
        exact ⟨ret_bool AN.out.symm, hb2⟩
    · have hke : k = a.length := by omega
      have hnx : ∀ ty, (Instr.next (.pointer (some ⟨(w.heap.size + 1), 0, none⟩)) true ty).run Try.prog wr = _ := fun ty => Lib.run_next_end_at wr (w.heap.size + 1) s k ty hI (by omega)
      have AN := Lib.hid (ynB_all (Ls := Ls) (a := a) (by rw [← hke]; exact HY.out))
      clear hI
      go_wp2
      go_ret
      exact ⟨ret_bool AN.out.symm, hb⟩
end Go.Proofs.Ytpolobjlihhjbaa
