/-
  The law on FirstDesk, walked: it returns true and writes nothing that was there. No condition.
-/
import Derived.Test.YtgojlabkngnkdaaDsk
namespace Go.Proofs.Ytgojlabkngnkdaa
open Go.RowKit

theorem Ow.grown {w w' : World} {B r : Nat} {v : Value} {ys : List Int} (h : Ow w B v ys) (k : w.grownBy w' (some r)) (hne : v.ownBlock ≠ some r) : Ow w' B v ys := by
  obtain ⟨h1, h2⟩ := h
  refine ⟨h1, ?_⟩
  rcases h2 with h2 | ⟨g, cap, cur, hv, hg, hh, q⟩
  · exact .inl h2
  · refine .inr ⟨g, cap, cur, hv, hg, ?_, q⟩
    rw [k.block g (Array.getElem?_eq_some_iff.1 hh).1 (by intro e; apply hne; rw [hv]; first | exact e | exact e.symm)]; exact hh
/-- Two rows of the call's own are written, nothing else. -/
structure Two (g1 g2 : Nat) (w w' : World) : Prop where
  os : w'.os = w.os
  tape : w'.tape = w.tape
  output : w'.output = w.output
  size : w.heap.size ≤ w'.heap.size
  block : ∀ i, i < w.heap.size → i ≠ g1 → i ≠ g2 → w'.heap[i]? = w.heap[i]?
theorem Two.below {g1 g2 C : Nat} {w w' : World} (h : Two g1 g2 w w') (h1 : C ≤ g1) (h2 : C ≤ g2) (hC : C ≤ w.heap.size) : Below C w w' :=
  ⟨h.os, h.tape, h.output, h.size, fun i hi => h.block i (by omega) (by omega) (by omega)⟩
theorem Bd.two {w w' : World} {g g1 g2 : Nat} {x y : Value} (h : Bd w g x y) (k : Two g1 g2 w w') (h1 : g ≠ g1) (h2 : g ≠ g2) : Bd w' g x y := by
  have e := k.block g h.lt h1 h2
  exact ⟨Nat.lt_of_lt_of_le h.lt k.size, by have := h.c0; simp only [World.cell?] at this ⊢; rw [e]; exact this, by have := h.c1; simp only [World.cell?] at this ⊢; rw [e]; exact this⟩

theorem ow_lit {w : World} {g n : Nat} {ys : List Int} (h : w.heap[g]? = some (.cells (ys.map (Value.int .i64)).toArray 3 (0, 0))) (hn : ys.length = n) (hm : n ≤ maxLen) : Ow w g (.slice (some ⟨g, 0, none⟩) n n) ys := by
  subst hn
  exact ⟨by simp, .inr ⟨g, ys.length, _, rfl, Nat.le_refl _, h, Nat.le_refl _, hm, by simp, List.take_of_length_le (by simp)⟩⟩
theorem first_told {fn : Func} {p : Tmp} (w : World) (tmps : Array Value) (h : fn.results = #[.cell p 24]) (hp : tmps.getD p undef = .pointer (some ⟨w.heap.size, 0, none⟩)) :
    (results fn tmps).run Try.prog (((w.alloc (.cells #[.slice (some ⟨w.heap.size + 1, 0, none⟩) 3 3, .slice (some ⟨w.heap.size + 1 + 1, 0, none⟩) 4 4] 24)).alloc (.cells #[.int .i64 1, .int .i64 2, .int .i64 4] 3)).alloc (.cells #[.int .i64 0, .int .i64 1, .int .i64 4, .int .i64 6] 3)) =
      .ok (.agg #[.slice (some ⟨w.heap.size + 1, 0, none⟩) 3 3, .slice (some ⟨w.heap.size + 1 + 1, 0, none⟩) 4 4]) (((w.alloc (.cells #[.slice (some ⟨w.heap.size + 1, 0, none⟩) 3 3, .slice (some ⟨w.heap.size + 1 + 1, 0, none⟩) 4 4] 24)).alloc (.cells #[.int .i64 1, .int .i64 2, .int .i64 4] 3)).alloc (.cells #[.int .i64 0, .int .i64 1, .int .i64 4, .int .i64 6] 3)) := by
  obtain ⟨fs, hfs⟩ := Try.deskU
  obtain ⟨c0, c1, -, -⟩ := dk_cells (blk3_0 w (.cells #[.slice (some ⟨w.heap.size + 1, 0, none⟩) 3 3, .slice (some ⟨w.heap.size + 1 + 1, 0, none⟩) 4 4] 24) (.cells #[.int .i64 1, .int .i64 2, .int .i64 4] 3) (.cells #[.int .i64 0, .int .i64 1, .int .i64 4, .int .i64 6] 3))
  exact dk_results h tmps _ w.heap.size _ _ fs hp c0 c1 hfs Try.deskI
theorem first_owns (w : World) (o : Obj) :
    Ow (((w.alloc o).alloc (.cells #[.int .i64 1, .int .i64 2, .int .i64 4] 3)).alloc (.cells #[.int .i64 0, .int .i64 1, .int .i64 4, .int .i64 6] 3)) (w.heap.size + 1) (.slice (some ⟨w.heap.size + 1, 0, none⟩) 3 3) [1, 2, 4] ∧
    Ow (((w.alloc o).alloc (.cells #[.int .i64 1, .int .i64 2, .int .i64 4] 3)).alloc (.cells #[.int .i64 0, .int .i64 1, .int .i64 4, .int .i64 6] 3)) (w.heap.size + 1 + 1) (.slice (some ⟨w.heap.size + 1 + 1, 0, none⟩) 4 4) [0, 1, 4, 6] ∧
    Below w.heap.size w (((w.alloc o).alloc (.cells #[.int .i64 1, .int .i64 2, .int .i64 4] 3)).alloc (.cells #[.int .i64 0, .int .i64 1, .int .i64 4, .int .i64 6] 3)) :=
  ⟨ow_lit (blk3_1 _ _ _ _) rfl (by decide), ow_lit (blk3_2 _ _ _ _) rfl (by decide), (((Below.refl _ w).alloc (Nat.le_refl _) _).alloc (by simp) _).alloc (by simp; omega) _⟩

def deskV (g1 g2 : Nat) : Value := .agg #[.slice (some ⟨g1, 0, none⟩) 3 3, .slice (some ⟨g2, 0, none⟩) 4 4]

set_option maxHeartbeats 4000000 in
theorem specFirst_any (w : World) :
    Calls Try.prog 7 #[] w fun e w' => ∃ g1 g2, e = .returned (deskV g1 g2) ∧ Ow w' g1 (.slice (some ⟨g1, 0, none⟩) 3 3) [1, 2, 4] ∧ Ow w' g2 (.slice (some ⟨g2, 0, none⟩) 4 4) [0, 1, 4, 6] ∧ w.heap.size ≤ g1 ∧ g1 < g2 ∧ g2 < w'.heap.size ∧ Below w.heap.size w w' := by
  go_enter Try.func7, Try.ntmps7
  go_wp2
  exact bodyPost_ret (first_told w _ rfl rfl) rfl ⟨_, _, rfl, (first_owns w _).1, (first_owns w _).2.1, by omega, by omega, by simp, (first_owns w _).2.2⟩

set_option maxHeartbeats 4000000 in
theorem implFirst_any (w : World) :
    Calls Try.prog 8 #[] w fun e w' => ∃ g1 g2, e = .returned (deskV g1 g2) ∧ Ow w' g1 (.slice (some ⟨g1, 0, none⟩) 3 3) [1, 2, 4] ∧ Ow w' g2 (.slice (some ⟨g2, 0, none⟩) 4 4) [0, 1, 4, 6] ∧ w.heap.size ≤ g1 ∧ g1 < g2 ∧ g2 < w'.heap.size ∧ Below w.heap.size w w' := by
  go_enter Try.func8, Try.ntmps8
  go_wp2
  exact bodyPost_ret (first_told w _ rfl rfl) rfl ⟨_, _, rfl, (first_owns w _).1, (first_owns w _).2.1, by omega, by omega, by simp, (first_owns w _).2.2⟩

set_option maxHeartbeats 4000000 in
theorem markDesk_any (g1 g2 : Nat) (xs ys : List Int) (w : World) (h1 : Ow w g1 (.slice (some ⟨g1, 0, none⟩) 3 3) xs) (h2 : Ow w g2 (.slice (some ⟨g2, 0, none⟩) 4 4) ys) (hn : g1 ≠ g2) (l1 : xs.length = 3) (l2 : ys.length = 4) (z1 : g1 < w.heap.size) (_z2 : g2 < w.heap.size) :
    Calls Try.prog 10 #[deskV g1 g2, .int .i64 1] w fun e w' => e = .returned (.int .i64 8) ∧ Ow w' g1 (.slice (some ⟨g1, 0, none⟩) 3 3) (marks 1 3) ∧ Ow w' g2 (.slice (some ⟨g2, 0, none⟩) 4 4) (marks 4 4) ∧ Two g1 g2 w w' := by
  obtain ⟨W, eW⟩ : ∃ W, w.alloc (.cells #[.slice (some ⟨g1, 0, none⟩) 3 3, .slice (some ⟨g2, 0, none⟩) 4 4] 24) = W := ⟨_, rfl⟩
  have hb0 : Below w.heap.size w W := by rw [← eW]; exact (Below.refl _ _).alloc (Nat.le_refl _) _
  have A : Bd W w.heap.size (.slice (some ⟨g1, 0, none⟩) 3 3) (.slice (some ⟨g2, 0, none⟩) 4 4) := by rw [← eW]; exact bd_new _ _ _ _
  have o1 := h1.below hb0 (Nat.le_refl _)
  have o2 := h2.below hb0 (Nat.le_refl _)
  have M1 := Lib.hid (markIntS_any _ xs g1 1 W o1 (by omega) (by omega) (by omega))
  rw [l1] at M1
  have HA := Lib.hid A
  have O2 := Lib.hid o2
  clear h1 h2 o1 o2
  obtain ⟨-, c0, c1⟩ := A
  go_enter Try.func10, Try.ntmps10
  unfold deskV
  go_wp2_with fail
  clear eW c0 c1
  refine M1.out.mono ?_
  rintro e w1 ⟨rfl, o1, k1⟩
  have k1 : W.grownBy w1 (some g1) := k1
  have A1 := HA.out.grown k1 (by omega)
  have o2 := O2.out.grown k1 (by simp [Value.ownBlock]; omega)
  have M2 := Lib.hid (markIntS_any _ ys g2 4 w1 o2 (by omega) (by omega) (by omega))
  rw [l2] at M2
  clear o2 M1
  have HA1 := Lib.hid A1
  obtain ⟨-, c0, c1⟩ := A1
  go_wp2_with fail
  refine M2.out.mono ?_
  rintro e w2 ⟨rfl, o2, k2⟩
  have k2 : w1.grownBy w2 (some g2) := k2
  have o3 := o1.grown k2 (by simp [Value.ownBlock]; omega)
  go_wp2_with fail
  go_ret
  exact ⟨rfl, o3, o2, ⟨k2.os.trans (k1.os.trans hb0.os), k2.tape.trans (k1.tape.trans hb0.tape), k2.output.trans (k1.output.trans hb0.output), Nat.le_trans hb0.size (Nat.le_trans k1.size k2.size), fun i hi n1 n2 => ((k2.block i (Nat.lt_of_lt_of_le hi (Nat.le_trans hb0.size k1.size)) (by simp; omega)).trans (k1.block i (Nat.lt_of_lt_of_le hi hb0.size) (by simp; omega))).trans (hb0.block i hi)⟩⟩

set_option maxHeartbeats 4000000 in
theorem heldDesk_any (g1 g2 : Nat) (w : World) (h1 : Sv w (.slice (some ⟨g1, 0, none⟩) 3 3) (marks 1 3)) (h2 : Sv w (.slice (some ⟨g2, 0, none⟩) 4 4) (marks 4 4)) :
    Calls Try.prog 11 #[deskV g1 g2, .int .i64 1] w fun e w' => e = .returned (.int .i64 8) ∧ Below w.heap.size w w' := by
  obtain ⟨W, eW⟩ : ∃ W, w.alloc (.cells #[.slice (some ⟨g1, 0, none⟩) 3 3, .slice (some ⟨g2, 0, none⟩) 4 4] 24) = W := ⟨_, rfl⟩
  have hb0 : Below w.heap.size w W := by rw [← eW]; exact (Below.refl _ _).alloc (Nat.le_refl _) _
  have A : Bd W w.heap.size (.slice (some ⟨g1, 0, none⟩) 3 3) (.slice (some ⟨g2, 0, none⟩) 4 4) := by rw [← eW]; exact bd_new _ _ _ _
  have M1 := Lib.hid (heldIntS_any _ 3 1 W (h1.below hb0 (Nat.le_refl _)) (by omega) (by omega) (by omega))
  have M2 := Lib.hid (heldIntS_any _ 4 4 W (h2.below hb0 (Nat.le_refl _)) (by omega) (by omega) (by omega))
  clear h1 h2
  obtain ⟨-, c0, c1⟩ := A
  go_enter Try.func11, Try.ntmps11
  unfold deskV
  go_wp2_with fail
  clear eW
  refine M1.out.mono ?_
  rintro e w1 ⟨rfl, rfl⟩
  clear M1
  go_wp2_with fail
  refine M2.out.mono ?_
  rintro e w1 ⟨rfl, rfl⟩
  go_wp2_with fail
  go_ret
  exact ⟨rfl, hb0⟩

set_option maxHeartbeats 8000000 in
theorem lawFirstDesk (w : World) :
    Calls Try.prog 3 #[] w fun e w' => e = .returned (.bool true) ∧ Below w.heap.size w w' := by
  go_enter Try.func3, Try.ntmps3
  go_wp2_with fail
  refine (specFirst_any _).mono ?_
  rintro e w1 ⟨v1, v2, rfl, ov1, ov2, z1, z2, z3, t⟩
  obtain ⟨W1, eW⟩ : ∃ W1, w1.alloc (.cells #[.slice (some ⟨v1, 0, none⟩) 3 3, .slice (some ⟨v2, 0, none⟩) 4 4] 24) = W1 := ⟨_, rfl⟩
  have b : Below w1.heap.size w1 W1 := by rw [← eW]; exact (Below.refl _ _).alloc (Nat.le_refl _) _
  have V : Bd W1 w1.heap.size (.slice (some ⟨v1, 0, none⟩) 3 3) (.slice (some ⟨v2, 0, none⟩) 4 4) := by rw [← eW]; exact bd_new _ _ _ _
  have zV : w1.heap.size < W1.heap.size := V.lt
  have SV1 := Lib.hid (ov1.sv.below b (Nat.le_refl _))
  have SV2 := Lib.hid (ov2.sv.below b (Nat.le_refl _))
  have HV := Lib.hid V
  have t0 := Lib.hid (nxt t b)
  clear b ov1 ov2 V t
  unfold deskV
  go_wp2_with fail
  clear eW
  refine (implFirst_any _).mono ?_
  rintro e w2 ⟨g1, g2, rfl, o1, o2, y1, y2, y3, T⟩
  obtain ⟨W2, eW⟩ : ∃ W2, w2.alloc (.cells #[.slice (some ⟨g1, 0, none⟩) 3 3, .slice (some ⟨g2, 0, none⟩) 4 4] 24) = W2 := ⟨_, rfl⟩
  have b : Below w2.heap.size w2 W2 := by rw [← eW]; exact (Below.refl _ _).alloc (Nat.le_refl _) _
  have G : Bd W2 w2.heap.size (.slice (some ⟨g1, 0, none⟩) 3 3) (.slice (some ⟨g2, 0, none⟩) 4 4) := by rw [← eW]; exact bd_new _ _ _ _
  have zG : w2.heap.size < W2.heap.size := G.lt
  replace o1 := o1.below b (Nat.le_refl _)
  replace o2 := o2.below b (Nat.le_refl _)
  replace T := nxt T b
  clear b
  have HG := Lib.hid G
  obtain ⟨-, c0, c1⟩ := G
  obtain ⟨-, d0, d1⟩ := HV.out.below T
  unfold deskV
  go_wp2_with fail
  clear eW c0 c1 d0 d1
  refine (eqDesk_yes _ _ _ _ _ _ _ o1.sv o2.sv (SV1.out.below T (Nat.le_refl _)) (SV2.out.below T (Nat.le_refl _)) (by simp) (by simp)).mono ?_
  rintro e w3 ⟨rfl, b⟩
  replace o1 := o1.below b (Nat.le_refl _)
  replace o2 := o2.below b (Nat.le_refl _)
  have G := HG.out.below b
  have zw := b.size
  replace T := nxt T b
  clear b HG
  have HG := Lib.hid G
  obtain ⟨-, c0, c1⟩ := G
  go_wp2_with fail
  clear c0 c1
  refine (markDesk_any g1 g2 _ _ _ o1 o2 (by omega) rfl rfl (by omega) (by omega)).mono ?_
  rintro e w4 ⟨rfl, o3, o4, k⟩
  clear o1 o2
  have G := HG.out.two k (by omega) (by omega)
  replace T := T.trans (k.below (C := W1.heap.size) (by omega) (by omega) T.size)
  clear k HG
  have HG := Lib.hid G
  obtain ⟨-, c0, c1⟩ := G
  go_wp2_with fail
  clear c0 c1
  refine (heldDesk_any g1 g2 _ o3.sv o4.sv).mono ?_
  rintro e w5 ⟨rfl, b⟩
  replace o3 := o3.below b (Nat.le_refl _)
  replace o4 := o4.below b (Nat.le_refl _)
  have G := HG.out.below b
  replace T := nxt T b
  clear b HG
  have HG := Lib.hid G
  clear G
  go_wp2_with fail
  refine (implFirst_any _).mono ?_
  rintro e w6 ⟨k1, k2, rfl, p1, p2, -, -, -, b⟩
  obtain ⟨W6, eW⟩ : ∃ W6, w6.alloc (.cells #[.slice (some ⟨k1, 0, none⟩) 3 3, .slice (some ⟨k2, 0, none⟩) 4 4] 24) = W6 := ⟨_, rfl⟩
  have b2 : Below w6.heap.size w6 W6 := by rw [← eW]; exact (Below.refl _ _).alloc (Nat.le_refl _) _
  have H : Bd W6 w6.heap.size (.slice (some ⟨k1, 0, none⟩) 3 3) (.slice (some ⟨k2, 0, none⟩) 4 4) := by rw [← eW]; exact bd_new _ _ _ _
  replace p1 := p1.below b2 (Nat.le_refl _)
  replace p2 := p2.below b2 (Nat.le_refl _)
  replace o3 := o3.below (nxt b b2) (Nat.le_refl _)
  replace o4 := o4.below (nxt b b2) (Nat.le_refl _)
  have G := HG.out.below (nxt b b2)
  replace T := nxt T (nxt b b2)
  clear b b2 HG
  have HG := Lib.hid G
  obtain ⟨-, c0, c1⟩ := H
  obtain ⟨-, d0, d1⟩ := HV.out.below T
  clear G
  unfold deskV
  go_wp2_with fail
  clear eW c0 c1 d0 d1
  refine (eqDesk_yes _ _ _ _ _ _ _ p1.sv p2.sv (SV1.out.below T (Nat.le_refl _)) (SV2.out.below T (Nat.le_refl _)) (by simp) (by simp)).mono ?_
  rintro e w7 ⟨rfl, b⟩
  clear p1 p2
  replace o3 := o3.below b (Nat.le_refl _)
  replace o4 := o4.below b (Nat.le_refl _)
  have G := HG.out.below b
  replace T := nxt T b
  clear b HG
  obtain ⟨-, c0, c1⟩ := G
  go_wp2_with fail
  clear c0 c1
  refine (heldDesk_any g1 g2 _ o3.sv o4.sv).mono ?_
  rintro e w8 ⟨rfl, b⟩
  replace T := nxt T b
  clear b
  go_wp2_with fail
  go_ret
  exact ⟨rfl, nxt t0.out T⟩
end Go.Proofs.Ytgojlabkngnkdaa
