/-
  All solutions, how many, the first one, and whether there is just one, in the model and in the program, by their contracts. Conditions: at most 2^40 clues.
-/
import Derived.Test.YtphjiicdodkfbaaYlk
import Derived.Test.YtphjiicdodkfbaaYlw
namespace Go.Proofs.Ytphjiicdodkfbaa
open Go.RowKit

set_option maxHeartbeats 4000000 in
theorem pzAll_any (v : Value) (cs : List Cl) (w : World) (h : Cv w v cs) (hc : ∀ c ∈ cs, clB c = true) (hl : cs.length ≤ 1099511627776) :
    Calls Try.prog 75 #[v] w fun e w' => ∃ u vals, e = .returned u ∧ RwAt w' w.heap.size w.heap.size u vals (solL cs) ∧ Below w.heap.size w w' := by
  have LK := Lib.hid (lookA cs hc hl 4)
  have b1 : Below w.heap.size w (w.alloc (.cells #[.slice none 0 0] 46)) := (Below.refl _ _).alloc (Nat.le_refl _) _
  have HCALL := LK.out v (.slice none 0 0) [] w.heap.size (.slice none 0 0) [] [] w.heap.size (w.alloc (.cells #[.slice none 0 0] 46)) (fun W hb => h.below (b1.trans hb) (Nat.le_refl _)) (World.ownsRow_nil _ _ _ _) HdOk.nil rfl (heap_alloc_new w _) (RwAt.nil _ _ _) (fun i hi => by simp at hi) (Nat.le_refl _) (by simp)
  rw [show [] ++ (hs 4 []).filter (fitA cs) = solL cs from rfl] at HCALL
  have HHC := Lib.hid HCALL
  generalize solL cs = T at *
  clear HCALL LK h hc
  go_enter Try.func75, Try.ntmps75
  go_wp2_with fail
  refine HHC.out.mono ?_
  rintro e w2 ⟨rfl, x2, vals2, hx2, r2, f2⟩
  obtain ⟨c1, f1⟩ := cells1_of hx2
  have HB := Lib.hid (b1.trans f2.bel)
  have HR := Lib.hid r2
  obtain ⟨p2, c2, rfl⟩ := r2.form
  clear f2 hx2 b1 r2
  go_wp2_with fail
  go_ret
  exact ⟨_, vals2, rfl, HR.out, HB.out⟩

noncomputable def slvB (cs : List Cl) : Bool := @decide ((solL cs).length = 1) (Classical.propDecidable _)

set_option maxHeartbeats 4000000 in
theorem countLeft_any (v : Value) (cs : List Cl) (w : World) (h : Cv w v cs) (hc : ∀ c ∈ cs, clB c = true) (hl : cs.length ≤ 1099511627776) :
    Calls Try.prog 85 #[v] w fun e w' => e = .returned (.int .i64 ((solL cs).length : Nat)) ∧ Below w.heap.size w w' := by
  have CA := Lib.hid (solutionsOf_any v cs w h hc hl)
  generalize solL cs = T at *
  clear h hc
  go_enter Try.func85, Try.ntmps85
  go_wp2_with fail
  refine CA.out.mono ?_
  rintro e w2 ⟨u2, vals2, rfl, r2, b2⟩
  obtain ⟨p2, c2, rfl⟩ := r2.form
  clear r2
  go_wp2_with fail
  go_ret
  exact ⟨rfl, b2⟩

set_option maxHeartbeats 4000000 in
theorem areSolved_any (v : Value) (cs : List Cl) (w : World) (h : Cv w v cs) (hc : ∀ c ∈ cs, clB c = true) (hl : cs.length ≤ 1099511627776) :
    Calls Try.prog 83 #[v] w fun e w' => e = .returned (.bool (slvB cs)) ∧ Below w.heap.size w w' := by
  have CA := Lib.hid (countLeft_any v cs w h hc hl)
  have BD := solL_bd cs
  have E1 : slvB cs = (((solL cs).length : Int) == 1) := by unfold slvB; by_cases e : (solL cs).length = 1 <;> simp [e] <;> omega
  generalize slvB cs = R at *
  generalize solL cs = T at *
  clear h hc
  go_enter Try.func83, Try.ntmps83
  go_wp2_with fail
  refine CA.out.mono ?_
  rintro e w2 ⟨rfl, b2⟩
  go_wp2_with fail
  go_ret
  exact ⟨by rw [E1]; rfl, b2⟩

set_option maxHeartbeats 4000000 in
theorem pzSolved_any (v : Value) (cs : List Cl) (w : World) (h : Cv w v cs) (hc : ∀ c ∈ cs, clB c = true) (hl : cs.length ≤ 1099511627776) :
    Calls Try.prog 82 #[v] w fun e w' => e = .returned (.bool (slvB cs)) ∧ Below w.heap.size w w' := by
  have CA := Lib.hid (pzAll_any v cs w h hc hl)
  have BD := solL_bd cs
  have E1 : slvB cs = (((solL cs).length : Int) == 1) := by unfold slvB; by_cases e : (solL cs).length = 1 <;> simp [e] <;> omega
  generalize slvB cs = R at *
  generalize solL cs = T at *
  clear h hc
  go_enter Try.func82, Try.ntmps82
  go_wp2_with fail
  refine CA.out.mono ?_
  rintro e w2 ⟨u2, vals2, rfl, r2, b2⟩
  obtain ⟨p2, c2, rfl⟩ := r2.form
  clear r2
  go_wp2_with fail
  go_ret
  exact ⟨by rw [E1]; rfl, b2⟩

noncomputable def slR (cs : List Cl) : List (List Int) := if pzB cs = true then solL cs else []
theorem slR_yes {cs : List Cl} (h : pzB cs = true) : slR cs = solL cs := by simp [slR, h]
theorem slR_no {cs : List Cl} (h : pzB cs = false) : slR cs = [] := by simp [slR, h]
theorem slR_bd (cs : List Cl) : (slR cs).length ≤ 2401 := by
  unfold slR; split
  · exact solL_bd cs
  · simp

set_option maxHeartbeats 4000000 in
theorem specSolutions_any (v : Value) (cs : List Cl) (w : World) (h : Cv w v cs) (hl : cs.length ≤ 1099511627776) :
    Calls Try.prog 33 #[.agg #[v]] w fun e w' => ∃ u vals, e = .returned (.tuple #[u, .bool (pzB cs)]) ∧ RwAt w' w.heap.size w.heap.size u vals (slR cs) ∧ Below w.heap.size w w' := by
  obtain ⟨W, eW⟩ : ∃ W, w.alloc (.cells #[v] 39) = W := ⟨_, rfl⟩
  have b1 : Below w.heap.size w W := by rw [← eW]; exact (Below.refl _ _).alloc (Nat.le_refl _) _
  have A : Bx W w.heap.size v := by rw [← eW]; exact bx_new _ _ _
  have PG := Lib.hid (pzGood_any v cs W (h.below b1 (Nat.le_refl _)) hl)
  have HH := Lib.hid h
  have HL := Lib.hid hl
  clear h hl
  cases hB : pzB cs
  · rw [hB] at PG
    rw [slR_no hB]
    have cA := A.cell
    go_enter Try.func33, Try.ntmps33
    go_wp2_with fail
    clear eW cA
    refine PG.out.mono ?_
    rintro e w1 ⟨rfl, b⟩
    have t := nxt b1 b
    clear b PG
    go_wp2_with fail
    go_ret2
    exact ⟨_, [], rfl, RwAt.nil _ _ _, t⟩
  · rw [hB] at PG
    have HC : Hid (∀ c ∈ cs, clB c = true) := Lib.hid (pzB_iff.1 hB).2
    have H6 : Hid (cs.length ≤ 6) := Lib.hid (pzB_iff.1 hB).1
    rw [slR_yes hB]
    have CA := Lib.hid (fun W hs => pzAll_any v cs W hs HC.out HL.out)
    generalize solL cs = T at *
    clear hB
    have cA := A.cell
    go_enter Try.func33, Try.ntmps33
    go_wp2_with fail
    clear eW cA
    refine PG.out.mono ?_
    rintro e w1 ⟨rfl, b⟩
    have A1 := A.below b
    have t := nxt b1 b
    have HS := Lib.hid (HH.out.below t (Nat.le_refl _))
    have cA := A1.cell
    clear b PG A
    go_wp2_with fail
    clear cA
    refine (CA.out _ HS.out).mono ?_
    rintro e w2 ⟨u2, vals2, rfl, r2, b2⟩
    have z1 := t.size
    go_wp2_with fail
    go_ret2
    exact ⟨_, vals2, rfl, r2.mono z1 z1, nxt t b2⟩

set_option maxHeartbeats 4000000 in
theorem implSolutions_any (v : Value) (cs : List Cl) (w : World) (h : Cv w v cs) (hl : cs.length ≤ 1099511627776) :
    Calls Try.prog 34 #[.agg #[v]] w fun e w' => ∃ u vals, e = .returned (.tuple #[u, .bool (pzB cs)]) ∧ RwAt w' w.heap.size w.heap.size u vals (slR cs) ∧ Below w.heap.size w w' := by
  obtain ⟨W, eW⟩ : ∃ W, w.alloc (.cells #[v] 39) = W := ⟨_, rfl⟩
  have b1 : Below w.heap.size w W := by rw [← eW]; exact (Below.refl _ _).alloc (Nat.le_refl _) _
  have A : Bx W w.heap.size v := by rw [← eW]; exact bx_new _ _ _
  have PG := Lib.hid (implIsPuzzle_any v cs W (h.below b1 (Nat.le_refl _)) hl)
  have HH := Lib.hid h
  have HL := Lib.hid hl
  clear h hl
  cases hB : pzB cs
  · rw [hB] at PG
    rw [slR_no hB]
    have cA := A.cell
    go_enter Try.func34, Try.ntmps34
    go_wp2_with fail
    clear eW cA
    refine PG.out.mono ?_
    rintro e w1 ⟨rfl, b⟩
    have t := nxt b1 b
    clear b PG
    go_wp2_with fail
    go_ret2
    exact ⟨_, [], rfl, RwAt.nil _ _ _, t⟩
  · rw [hB] at PG
    have HC : Hid (∀ c ∈ cs, clB c = true) := Lib.hid (pzB_iff.1 hB).2
    have H6 : Hid (cs.length ≤ 6) := Lib.hid (pzB_iff.1 hB).1
    rw [slR_yes hB]
    have CA := Lib.hid (fun W hs => solutionsOf_any v cs W hs HC.out HL.out)
    generalize solL cs = T at *
    clear hB
    have cA := A.cell
    go_enter Try.func34, Try.ntmps34
    go_wp2_with fail
    clear eW cA
    refine PG.out.mono ?_
    rintro e w1 ⟨rfl, b⟩
    have A1 := A.below b
    have t := nxt b1 b
    have HS := Lib.hid (HH.out.below t (Nat.le_refl _))
    have cA := A1.cell
    clear b PG A
    go_wp2_with fail
    clear cA
    refine (CA.out _ HS.out).mono ?_
    rintro e w2 ⟨u2, vals2, rfl, r2, b2⟩
    have z1 := t.size
    go_wp2_with fail
    go_ret2
    exact ⟨_, vals2, rfl, r2.mono z1 z1, nxt t b2⟩

set_option maxHeartbeats 4000000 in
theorem specCountSolutions_any (v : Value) (cs : List Cl) (w : World) (h : Cv w v cs) (hl : cs.length ≤ 1099511627776) :
    Calls Try.prog 39 #[.agg #[v]] w fun e w' => e = .returned (.tuple #[.int .i64 ((slR cs).length : Nat), .bool (pzB cs)]) ∧ Below w.heap.size w w' := by
  obtain ⟨W, eW⟩ : ∃ W, w.alloc (.cells #[v] 39) = W := ⟨_, rfl⟩
  have b1 : Below w.heap.size w W := by rw [← eW]; exact (Below.refl _ _).alloc (Nat.le_refl _) _
  have A : Bx W w.heap.size v := by rw [← eW]; exact bx_new _ _ _
  have PG := Lib.hid (pzGood_any v cs W (h.below b1 (Nat.le_refl _)) hl)
  have HH := Lib.hid h
  have HL := Lib.hid hl
  clear h hl
  cases hB : pzB cs
  · rw [hB] at PG
    rw [slR_no hB]
    have cA := A.cell
    go_enter Try.func39, Try.ntmps39
    go_wp2_with fail
    clear eW cA
    refine PG.out.mono ?_
    rintro e w1 ⟨rfl, b⟩
    have t := nxt b1 b
    clear b PG
    go_wp2_with fail
    go_ret2
    exact ⟨rfl, t⟩
  · rw [hB] at PG
    have HC : Hid (∀ c ∈ cs, clB c = true) := Lib.hid (pzB_iff.1 hB).2
    have H6 : Hid (cs.length ≤ 6) := Lib.hid (pzB_iff.1 hB).1
    rw [slR_yes hB]
    have CA := Lib.hid (fun W hs => pzAll_any v cs W hs HC.out HL.out)
    generalize solL cs = T at *
    clear hB
    have cA := A.cell
    go_enter Try.func39, Try.ntmps39
    go_wp2_with fail
    clear eW cA
    refine PG.out.mono ?_
    rintro e w1 ⟨rfl, b⟩
    have A1 := A.below b
    have t := nxt b1 b
    have HS := Lib.hid (HH.out.below t (Nat.le_refl _))
    have cA := A1.cell
    clear b PG A
    go_wp2_with fail
    clear cA
    refine (CA.out _ HS.out).mono ?_
    rintro e w2 ⟨u2, vals2, rfl, r2, b2⟩
    obtain ⟨p2, c2, rfl⟩ := r2.form
    clear r2
    go_wp2_with fail
    go_ret2
    exact ⟨rfl, nxt t b2⟩

set_option maxHeartbeats 4000000 in
theorem implCountSolutions_any (v : Value) (cs : List Cl) (w : World) (h : Cv w v cs) (hl : cs.length ≤ 1099511627776) :
    Calls Try.prog 40 #[.agg #[v]] w fun e w' => e = .returned (.tuple #[.int .i64 ((slR cs).length : Nat), .bool (pzB cs)]) ∧ Below w.heap.size w w' := by
  obtain ⟨W, eW⟩ : ∃ W, w.alloc (.cells #[v] 39) = W := ⟨_, rfl⟩
  have b1 : Below w.heap.size w W := by rw [← eW]; exact (Below.refl _ _).alloc (Nat.le_refl _) _
  have A : Bx W w.heap.size v := by rw [← eW]; exact bx_new _ _ _
  have SO := Lib.hid (implSolutions_any v cs W (h.below b1 (Nat.le_refl _)) hl)
  have cA := A.cell
  clear h hl
  generalize slR cs = T at *
  generalize pzB cs = B at *
  go_enter Try.func40, Try.ntmps40
  go_wp2_with fail
  clear eW cA
  refine SO.out.mono ?_
  rintro e w2 ⟨u2, vals2, rfl, r2, b2⟩
  obtain ⟨p2, c2, rfl⟩ := r2.form
  clear r2
  go_wp2_with fail
  go_ret2
  exact ⟨rfl, nxt b1 b2⟩

set_option maxHeartbeats 4000000 in
theorem specIsSolved_any (v : Value) (cs : List Cl) (w : World) (h : Cv w v cs) (hl : cs.length ≤ 1099511627776) :
    Calls Try.prog 47 #[.agg #[v]] w fun e w' => e = .returned (.tuple #[.bool (pzB cs && slvB cs), .bool (pzB cs)]) ∧ Below w.heap.size w w' := by
  obtain ⟨W, eW⟩ : ∃ W, w.alloc (.cells #[v] 39) = W := ⟨_, rfl⟩
  have b1 : Below w.heap.size w W := by rw [← eW]; exact (Below.refl _ _).alloc (Nat.le_refl _) _
  have A : Bx W w.heap.size v := by rw [← eW]; exact bx_new _ _ _
  have PG := Lib.hid (pzGood_any v cs W (h.below b1 (Nat.le_refl _)) hl)
  have HH := Lib.hid h
  have HL := Lib.hid hl
  clear h hl
  cases hB : pzB cs
  · rw [hB] at PG
    rw [Bool.false_and]
    have cA := A.cell
    go_enter Try.func47, Try.ntmps47
    go_wp2_with fail
    clear eW cA
    refine PG.out.mono ?_
    rintro e w1 ⟨rfl, b⟩
    have t := nxt b1 b
    clear b PG
    go_wp2_with fail
    go_ret2
    exact ⟨rfl, t⟩
  · rw [hB] at PG
    have HC : Hid (∀ c ∈ cs, clB c = true) := Lib.hid (pzB_iff.1 hB).2
    have H6 : Hid (cs.length ≤ 6) := Lib.hid (pzB_iff.1 hB).1
    have CA := Lib.hid (fun W hs => pzSolved_any v cs W hs HC.out HL.out)
    rw [Bool.true_and]
    generalize slvB cs = T at *
    clear hB
    have cA := A.cell
    go_enter Try.func47, Try.ntmps47
    go_wp2_with fail
    clear eW cA
    refine PG.out.mono ?_
    rintro e w1 ⟨rfl, b⟩
    have A1 := A.below b
    have t := nxt b1 b
    have HS := Lib.hid (HH.out.below t (Nat.le_refl _))
    have cA := A1.cell
    clear b PG A
    go_wp2_with fail
    clear cA
    refine (CA.out _ HS.out).mono ?_
    rintro e w2 ⟨rfl, b2⟩
    go_wp2_with fail
    go_ret2
    exact ⟨rfl, nxt t b2⟩

set_option maxHeartbeats 4000000 in
theorem implIsSolved_any (v : Value) (cs : List Cl) (w : World) (h : Cv w v cs) (hl : cs.length ≤ 1099511627776) :
    Calls Try.prog 48 #[.agg #[v]] w fun e w' => e = .returned (.tuple #[.bool (pzB cs && slvB cs), .bool (pzB cs)]) ∧ Below w.heap.size w w' := by
  obtain ⟨W, eW⟩ : ∃ W, w.alloc (.cells #[v] 39) = W := ⟨_, rfl⟩
  have b1 : Below w.heap.size w W := by rw [← eW]; exact (Below.refl _ _).alloc (Nat.le_refl _) _
  have A : Bx W w.heap.size v := by rw [← eW]; exact bx_new _ _ _
  have PG := Lib.hid (implIsPuzzle_any v cs W (h.below b1 (Nat.le_refl _)) hl)
  have HH := Lib.hid h
  have HL := Lib.hid hl
  clear h hl
  cases hB : pzB cs
  · rw [hB] at PG
    rw [Bool.false_and]
    have cA := A.cell
    go_enter Try.func48, Try.ntmps48
    go_wp2_with fail
    clear eW cA
    refine PG.out.mono ?_
    rintro e w1 ⟨rfl, b⟩
    have t := nxt b1 b
    clear b PG
    go_wp2_with fail
    go_ret2
    exact ⟨rfl, t⟩
  · rw [hB] at PG
    have HC : Hid (∀ c ∈ cs, clB c = true) := Lib.hid (pzB_iff.1 hB).2
    have H6 : Hid (cs.length ≤ 6) := Lib.hid (pzB_iff.1 hB).1
    have CA := Lib.hid (fun W hs => areSolved_any v cs W hs HC.out HL.out)
    rw [Bool.true_and]
    generalize slvB cs = T at *
    clear hB
    have cA := A.cell
    go_enter Try.func48, Try.ntmps48
    go_wp2_with fail
    clear eW cA
    refine PG.out.mono ?_
    rintro e w1 ⟨rfl, b⟩
    have A1 := A.below b
    have t := nxt b1 b
    have HS := Lib.hid (HH.out.below t (Nat.le_refl _))
    have cA := A1.cell
    clear b PG A
    go_wp2_with fail
    clear cA
    refine (CA.out _ HS.out).mono ?_
    rintro e w2 ⟨rfl, b2⟩
    go_wp2_with fail
    go_ret2
    exact ⟨rfl, nxt t b2⟩
end Go.Proofs.Ytphjiicdodkfbaa
