/-
  DoesFit in the model and in the program, by their contracts. Condition: at most 2^40 pieces.
-/
import Derived.Test.YtphjiicdodkfbaaYfa
namespace Go.Proofs.Ytphjiicdodkfbaa
open Go.RowKit

noncomputable def dfB (k a b : Int) (xs : List Int) : Bool := clB ⟨k, a, b⟩ && hdB xs
noncomputable def dfR (k a b : Int) (xs : List Int) : Bool := dfB k a b xs && fitB ⟨k, a, b⟩ xs
theorem fit_one (c : Cl) (xs : List Int) : fitA [c] xs = fitB c xs := by simp [fitA]

set_option maxHeartbeats 4000000 in
theorem specDoesFit_any (k a b : Int) (v : Value) (xs : List Int) (w : World) (h : Sv w v xs) (hl : xs.length ≤ 1099511627776) :
    Calls Try.prog 31 #[.agg #[.int .i64 k, .int .i64 a, .int .i64 b], v] w fun e w' => e = .returned (.tuple #[.bool (dfR k a b xs), .bool (dfB k a b xs)]) ∧ Below w.heap.size w w' := by
  obtain ⟨W, eW⟩ : ∃ W, w.alloc (.cells #[.int .i64 k, .int .i64 a, .int .i64 b] 29) = W := ⟨_, rfl⟩
  have b1 : Below w.heap.size w W := by rw [← eW]; exact (Below.refl _ _).alloc (Nat.le_refl _) _
  have ZW : w.heap.size < W.heap.size := by rw [← eW]; simp
  have HB := Lib.hid (show W.heap[w.heap.size]? = some (.cells #[.int .i64 k, .int .i64 a, .int .i64 b] 29 (0, 0)) by rw [← eW]; exact heap_alloc_new w _)
  have HS := Lib.hid (h.below b1 (Nat.le_refl _))
  clear h
  obtain ⟨x1, x2, x3, -, -, -⟩ := cells3_of HB.out
  have HF := Lib.hid (fun (W' : World) (hb : Below W.heap.size W W') (h1 : clB ⟨k, a, b⟩ = true) (h2 : hdB xs = true) => pzFits_any k a b v xs W' (HS.out.below hb (Nat.le_refl _)) (hdB_iff.1 h2).good h1)
  unfold dfR dfB
  go_enter Try.func31, Try.ntmps31
  go_wp2_with fail
  clear eW x1 x2 x3
  refine (pzClue_any _ _ _ _).mono ?_
  rintro e w2 ⟨rfl, t⟩
  cases hC : clB ⟨k, a, b⟩
  · go_wp2_with fail
    go_ret2
    exact ⟨by rw [hC]; rfl, nxt b1 t⟩
  · go_wp2_with fail
    refine (pzHidden_any _ _ _ (HS.out.below t (Nat.le_refl _)) hl).mono ?_
    rintro e w3 ⟨rfl, t3⟩
    have t3 := nxt t t3
    cases hH : hdB xs
    · go_wp2_with fail
      go_ret2
      exact ⟨by rw [hC, hH]; rfl, nxt b1 t3⟩
    · obtain ⟨x1, x2, x3, -, -, -⟩ := cells3_of ((t3.block _ ZW).trans HB.out)
      go_wp2_with fail
      refine (HF.out _ t3 hC hH).mono ?_
      rintro e w4 ⟨rfl, t4⟩
      go_wp2_with fail
      go_ret2
      exact ⟨by rw [hC, hH]; rfl, nxt b1 (nxt t3 t4)⟩

set_option maxHeartbeats 4000000 in
theorem implDoesFit_any (k a b : Int) (v : Value) (xs : List Int) (w : World) (h : Sv w v xs) (hl : xs.length ≤ 1099511627776) :
    Calls Try.prog 32 #[.agg #[.int .i64 k, .int .i64 a, .int .i64 b], v] w fun e w' => e = .returned (.tuple #[.bool (dfR k a b xs), .bool (dfB k a b xs)]) ∧ Below w.heap.size w w' := by
  obtain ⟨W, eW⟩ : ∃ W, w.alloc (.cells #[.int .i64 k, .int .i64 a, .int .i64 b] 29) = W := ⟨_, rfl⟩
  have b1 : Below w.heap.size w W := by rw [← eW]; exact (Below.refl _ _).alloc (Nat.le_refl _) _
  have ZW : w.heap.size < W.heap.size := by rw [← eW]; simp
  have HB := Lib.hid (show W.heap[w.heap.size]? = some (.cells #[.int .i64 k, .int .i64 a, .int .i64 b] 29 (0, 0)) by rw [← eW]; exact heap_alloc_new w _)
  have HS := Lib.hid (h.below b1 (Nat.le_refl _))
  clear h
  obtain ⟨x1, x2, x3, -, -, -⟩ := cells3_of HB.out
  have HF := Lib.hid (fun (W' : World) (hb : Below W.heap.size W W') (h1 : clB ⟨k, a, b⟩ = true) (h2 : hdB xs = true) => fitsAll_any v _ xs [⟨k, a, b⟩] _ (HS.out.below (hb.alloc hb.size (.cells #[.int .i64 k, .int .i64 a, .int .i64 b] 29)) (Nat.le_refl _)) (hdB_iff.1 h2).good (cv_one W' k a b) (fun c hc => by rw [List.mem_singleton.1 hc]; exact h1) (by simp))
  unfold dfR dfB
  go_enter Try.func32, Try.ntmps32
  go_wp2_with fail
  clear eW x1 x2 x3
  refine (implIsClue_any _ _ _ _).mono ?_
  rintro e w2 ⟨rfl, t⟩
  cases hC : clB ⟨k, a, b⟩
  · go_wp2_with fail
    go_ret2
    exact ⟨by rw [hC]; rfl, nxt b1 t⟩
  · go_wp2_with fail
    refine (implIsHidden_any _ _ _ (HS.out.below t (Nat.le_refl _)) hl).mono ?_
    rintro e w3 ⟨rfl, t3⟩
    have t3 := nxt t t3
    cases hH : hdB xs
    · go_wp2_with fail
      go_ret2
      exact ⟨by rw [hC, hH]; rfl, nxt b1 t3⟩
    · obtain ⟨x1, x2, x3, -, -, -⟩ := cells3_of ((t3.block _ ZW).trans HB.out)
      have FF := Lib.hid (HF.out _ t3 hC hH)
      rw [fit_one] at FF
      go_wp2_with fail
      refine FF.out.mono ?_
      rintro e w4 ⟨rfl, t4⟩
      go_wp2_with fail
      go_ret2
      exact ⟨by rw [hC, hH]; rfl, nxt b1 (t3.trans (((Below.refl _ _).alloc (Nat.le_refl _) _ |>.mono t3.size).trans (t4.mono (by simp; have := t3.size; omega))))⟩
end Go.Proofs.Ytphjiicdodkfbaa
