/-
  Parts of a slice of clues: the first ones, one alone. Conditions: within bounds. FirstSolution in the model and in the program.
-/
import Derived.Test.YtphjiicdodkfbaaYsa
namespace Go.Proofs.Ytphjiicdodkfbaa
open Go.RowKit

theorem cA_take {cs : List Cl} {k j : Nat} (hj : j < k) : cA (cs.take k) j = cA cs j := by
  unfold cA; rw [List.getD_eq_getElem?_getD, List.getD_eq_getElem?_getD, List.getElem?_take, if_pos hj]
theorem Cv.take {w : World} {p : Option Addr} {cap k c2 : Nat} {cs : List Cl} (h : Cv w (.slice p cs.length cap) cs) (hk : k ≤ cs.length) (hc : k ≤ c2) (hm : c2 ≤ maxLen) : Cv w (.slice p k c2) (cs.take k) := by
  obtain ⟨q, cap2, e, _, _, hx⟩ := h
  have hl : (cs.take k).length = k := by rw [List.length_take]; omega
  simp only [Value.slice.injEq, true_and] at e
  obtain ⟨rfl, rfl⟩ := e
  refine ⟨p, c2, by rw [hl], by omega, hm, fun h0 => ?_⟩
  rw [hl] at h0
  obtain ⟨b, off, hp, hb, hc3⟩ := hx (by omega)
  refine ⟨b, off, hp, hb, fun j hj => ?_⟩
  rw [hl] at hj
  rw [cA_take hj]
  exact hc3 j (by omega)
theorem Cv.one {w : World} {b off cap k c2 : Nat} {cs : List Cl} (h : Cv w (.slice (some ⟨b, off, none⟩) cs.length cap) cs) (hk : k < cs.length) (hc : 1 ≤ c2) (hm : c2 ≤ maxLen) : Cv w (.slice (some ⟨b, off + k * 3, none⟩) 1 c2) [cA cs k] := by
  obtain ⟨q, cap2, e, _, _, hx⟩ := h
  simp only [Value.slice.injEq, true_and] at e
  obtain ⟨rfl, rfl⟩ := e
  obtain ⟨b2, off2, hp, hb, hc3⟩ := hx (by omega)
  simp only [Option.some.injEq, Addr.mk.injEq, and_true] at hp
  obtain ⟨rfl, rfl⟩ := hp
  refine ⟨_, c2, rfl, hc, hm, fun _ => ⟨b, off + k * 3, rfl, hb, fun j hj => ?_⟩⟩
  obtain rfl : j = 0 := by simpa using hj
  have := hc3 k hk
  simpa [cA] using this
theorem Cv.facts {w : World} {p : Option Addr} {cap : Nat} {cs : List Cl} (h : Cv w (.slice p cs.length cap) cs) : cs.length ≤ cap ∧ cap ≤ maxLen := by
  obtain ⟨q, cap2, e, h1, h2, _⟩ := h
  simp only [Value.slice.injEq, true_and] at e
  obtain ⟨rfl, rfl⟩ := e
  exact ⟨h1, h2⟩
theorem sub_ok {cs ds : List Cl} (h : ∀ c ∈ cs, clB c = true) (hs : ∀ c ∈ ds, c ∈ cs) : ∀ c ∈ ds, clB c = true := fun c hc => h c (hs c hc)
theorem one_ok {cs : List Cl} (h : ∀ c ∈ cs, clB c = true) {k : Nat} (hk : k < cs.length) : ∀ c ∈ [cA cs k], clB c = true := fun c hc => by
  rw [List.mem_singleton.1 hc, cA_of hk]; exact h _ (List.getElem_mem hk)

noncomputable def fsB (cs : List Cl) : Bool := decide (0 < (slR cs).length)
noncomputable def fsR (cs : List Cl) : List Int := (slR cs).getD 0 []
theorem fs_bd (cs : List Cl) : (fsR cs).length ≤ 1099511627776 := by
  unfold fsR
  by_cases h : 0 < (slR cs).length
  · have : HdOk ((slR cs).getD 0 []) := by
      unfold slR at h ⊢
      split at h
      · next e => rw [if_pos e]; exact solL_row h
      · simp at h
    have := this.1
    omega
  · rw [List.getD_eq_getElem?_getD, List.getElem?_eq_none (by omega)]; simp

set_option maxHeartbeats 4000000 in
theorem specFirstSolution_any (v : Value) (cs : List Cl) (w : World) (h : Cv w v cs) (hl : cs.length ≤ 1099511627776) :
    Calls Try.prog 41 #[.agg #[v]] w fun e w' => ∃ u, e = .returned (.tuple #[u, .bool (fsB cs)]) ∧ Ow w' w.heap.size u (fsR cs) ∧ Below w.heap.size w w' := by
  obtain ⟨W, eW⟩ : ∃ W, w.alloc (.cells #[v] 39) = W := ⟨_, rfl⟩
  have b1 : Below w.heap.size w W := by rw [← eW]; exact (Below.refl _ _).alloc (Nat.le_refl _) _
  have A : Bx W w.heap.size v := by rw [← eW]; exact bx_new _ _ _
  have PG := Lib.hid (pzGood_any v cs W (h.below b1 (Nat.le_refl _)) hl)
  have HH := Lib.hid h
  have HL := Lib.hid hl
  clear h hl
  cases hB : pzB cs
  · rw [hB] at PG
    have E0 : fsB cs = false := by unfold fsB; rw [slR_no hB]; rfl
    have E1 : fsR cs = [] := by unfold fsR; rw [slR_no hB]; rfl
    rw [E0, E1]
    have cA := A.cell
    go_enter Try.func41, Try.ntmps41
    go_wp2_with fail
    clear eW cA
    refine PG.out.mono ?_
    rintro e w1 ⟨rfl, b⟩
    have t := nxt b1 b
    clear b PG
    go_wp2_with fail
    go_ret2
    exact ⟨_, rfl, World.ownsRow_nil _ _ _ _, t⟩
  · rw [hB] at PG
    have HC : Hid (∀ c ∈ cs, clB c = true) := Lib.hid (pzB_iff.1 hB).2
    have H6 : Hid (cs.length ≤ 6) := Lib.hid (pzB_iff.1 hB).1
    have CA := Lib.hid (fun W hs => pzAll_any v cs W hs HC.out HL.out)
    have EB : Hid (fsB cs = decide (0 < (solL cs).length)) := Lib.hid (by unfold fsB; rw [slR_yes hB])
    have ER : Hid (fsR cs = (solL cs).getD 0 []) := Lib.hid (by unfold fsR; rw [slR_yes hB])
    generalize solL cs = T at *
    clear hB
    have cA := A.cell
    go_enter Try.func41, Try.ntmps41
    go_wp2_with fail
    clear eW cA
    refine PG.out.mono ?_
    rintro e w1 ⟨rfl, b⟩
    have A1 := A.below b
    have t := nxt b1 b
    have HS := Lib.hid (HH.out.below t (Nat.le_refl _))
    have cA := A1.cell
    clear b PG A
    go_wp2_with fail
    clear cA
    refine (CA.out _ HS.out).mono ?_
    rintro e w2 ⟨u2, vals2, rfl, r2, b2⟩
    have z1 := t.size
    have hb2 := nxt t b2
    by_cases h0 : T.length = 0
    · have e0 : T = [] := List.length_eq_zero_iff.1 h0
      obtain ⟨p2, c2, rfl⟩ := r2.form
      subst e0
      clear r2
      go_wp2_with fail
      go_ret2
      exact ⟨_, by rw [EB.out]; rfl, by rw [ER.out]; exact World.ownsRow_nil _ _ _ _, hb2⟩
    · obtain ⟨g, cap, rfl, -, -, hcell⟩ := r2.cells (by omega)
      have hc0 := hcell 0 (by omega)
      have hr0 := r2.row 0 (by omega)
      unfold rowL at hr0
      have d0 : ((T.length : Int) == 0) = false := by rw [beq_eq_false_iff_ne]; omega
      have hp : (0 : Int) < (T.length : Int) := by omega
      have EB2 := Lib.hid (show fsB cs = true by rw [EB.out]; simp; omega)
      have HR0 := Lib.hid (show Ow w2 w.heap.size (vals2.getD 0 undef) (fsR cs) by rw [ER.out]; exact hr0.mono z1)
      generalize vals2.getD 0 undef = U at *
      clear hcell hr0 r2 h0 EB ER
      go_wp2_with fail
      go_ret2
      exact ⟨_, by rw [EB2.out]; rfl, HR0.out, hb2⟩

set_option maxHeartbeats 4000000 in
theorem implFirstSolution_any (v : Value) (cs : List Cl) (w : World) (h : Cv w v cs) (hl : cs.length ≤ 1099511627776) :
    Calls Try.prog 42 #[.agg #[v]] w fun e w' => ∃ u, e = .returned (.tuple #[u, .bool (fsB cs)]) ∧ Ow w' w.heap.size u (fsR cs) ∧ Below w.heap.size w w' := by
  obtain ⟨W, eW⟩ : ∃ W, w.alloc (.cells #[v] 39) = W := ⟨_, rfl⟩
  have b1 : Below w.heap.size w W := by rw [← eW]; exact (Below.refl _ _).alloc (Nat.le_refl _) _
  have A : Bx W w.heap.size v := by rw [← eW]; exact bx_new _ _ _
  have SO := Lib.hid (implSolutions_any v cs W (h.below b1 (Nat.le_refl _)) hl)
  have EB : Hid (fsB cs = decide (0 < (slR cs).length)) := Lib.hid rfl
  have ER : Hid (fsR cs = (slR cs).getD 0 []) := Lib.hid rfl
  have cA := A.cell
  have t := b1
  clear h hl A
  generalize slR cs = T at *
  generalize pzB cs = B at *
  go_enter Try.func42, Try.ntmps42
  go_wp2_with fail
  clear eW cA
  refine SO.out.mono ?_
  rintro e w2 ⟨u2, vals2, rfl, r2, b2⟩
  have z1 := t.size
  have hb2 := nxt t b2
  by_cases h0 : T.length = 0
  · have e0 : T = [] := List.length_eq_zero_iff.1 h0
    obtain ⟨p2, c2, rfl⟩ := r2.form
    subst e0
    clear r2
    go_wp2_with fail
    go_ret2
    exact ⟨_, by rw [EB.out]; rfl, by rw [ER.out]; exact World.ownsRow_nil _ _ _ _, hb2⟩
  · obtain ⟨g, cap, rfl, -, -, hcell⟩ := r2.cells (by omega)
    have hc0 := hcell 0 (by omega)
    have hr0 := r2.row 0 (by omega)
    unfold rowL at hr0
    have d0 : ((T.length : Int) == 0) = false := by rw [beq_eq_false_iff_ne]; omega
    have hp : (0 : Int) < (T.length : Int) := by omega
    have EB2 := Lib.hid (show fsB cs = true by rw [EB.out]; simp; omega)
    have HR0 := Lib.hid (show Ow w2 w.heap.size (vals2.getD 0 undef) (fsR cs) by rw [ER.out]; exact hr0.mono z1)
    generalize vals2.getD 0 undef = U at *
    clear hcell hr0 r2 h0 EB ER
    go_wp2_with fail
    go_ret2
    exact ⟨_, by rw [EB2.out]; rfl, HR0.out, hb2⟩
end Go.Proofs.Ytphjiicdodkfbaa
