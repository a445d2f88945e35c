/-
  PiecesForRun in the model and in the program, by contracts. No condition.
-/
import Derived.Test.YtcgifmoddojnmaaZgs
import Derived.Test.YtcgifmoddojnmaaZpt
namespace Go.Proofs.Ytcgifmoddojnmaa
open Go.RowKit

/-- The first k powers of three, and their sum. -/
def prL (k : Nat) : List Int := (List.range k).map p3
theorem prL_succ (k : Nat) : prL (k + 1) = prL k ++ [p3 k] := by simp [prL, List.range_succ]
theorem prL_len (k : Nat) : (prL k).length = k := by simp [prL]
theorem prL_at {k j : Nat} (h : j < k) : (prL k).getD j 0 = p3 j := by simp [prL, List.getD, h]
theorem prL_sum (k : Nat) : 2 * sumP (prL k) + 1 = p3 k := by
  induction k with
  | zero => simp [prL, sumP, sumFrom, p3]
  | succ k ih =>
    have app : ∀ (a : List Int) (x s : Int), sumFrom s (a ++ [x]) = sumFrom s a + x := by
      intro a
      induction a with
      | nil => intro x s; rfl
      | cons c a ih => intro x s; simp only [List.cons_append, sumFrom, ih]
    have e : sumP (prL (k + 1)) = sumP (prL k) + p3 k := by unfold sumP; rw [prL_succ, app]
    rw [e, p3_succ]
    omega
theorem p3_nine : p3 9 = 19683 := by decide
theorem prL_good {k : Nat} (h : k ≤ 9) : Good (prL k) := by
  refine ⟨by rw [prL_len]; omega, fun j hj => ?_, fun j hj => ?_⟩
  · rw [prL_len] at hj
    rw [prL_at hj]
    have h1 := p3_pos j
    have h2 := p3_mono (show j ≤ 8 by omega)
    have h3 : p3 8 = 6561 := by decide
    omega
  · rw [prL_len] at hj
    rw [prL_at (by omega), prL_at hj, p3_succ]
    have h1 := p3_pos j
    omega
/-- The fewest that reach a run. -/
def PrK (run : Int) (k : Nat) : Prop := run ≤ sumP (prL k) ∧ ∀ j, j < k → sumP (prL j) < run
noncomputable def prK (run : Int) : Nat := @dite _ (∃ k, PrK run k) (Classical.propDecidable _) (fun h => h.choose) (fun _ => 0)
theorem prK_eq {run : Int} {k : Nat} (h : PrK run k) : prK run = k := by
  have hx : ∃ k, PrK run k := ⟨k, h⟩
  have e : prK run = hx.choose := by unfold prK; rw [dif_pos hx]
  have h2 := hx.choose_spec
  rw [e]
  obtain ⟨q, hq⟩ : ∃ q, hx.choose = q := ⟨_, rfl⟩
  rw [hq] at h2 ⊢
  rcases Nat.lt_trichotomy q k with h3 | h3 | h3
  · have := h.2 q h3; have := h2.1; omega
  · exact h3
  · have := h2.2 k h3; have := h.1; omega
def prB (run : Int) : Bool := inB run 0 9841
noncomputable def prR (run : Int) : List Int := if prB run = true then prL (prK run) else []
theorem prR_no {run : Int} (h : prB run = false) : prR run = [] := by simp [prR, h]
theorem prR_yes {run : Int} {k : Nat} (h : prB run = true) (hk : PrK run k) : prR run = prL k := by simp [prR, h, prK_eq hk]
theorem prK_small {run : Int} (h : run ≤ 9841) {k : Nat} (hk : ∀ j, j < k → sumP (prL j) < run) : k ≤ 9 := by
  by_cases h9 : k ≤ 9
  · exact h9
  · have h1 := hk 9 (by omega)
    have h2 := prL_sum 9
    rw [p3_nine] at h2
    omega
theorem prR_len (run : Int) : (prR run).length ≤ 1099511627776 := by
  unfold prR
  by_cases h : prB run = true
  · rw [if_pos h, prL_len]
    have h1 := (inB_iff.1 h).2
    unfold prK
    by_cases hx : ∃ k, PrK run k
    · rw [dif_pos hx]
      have := prK_small h1 hx.choose_spec.2
      omega
    · rw [dif_neg hx]; omega
  · rw [if_neg h]; simp

set_option maxHeartbeats 4000000 in
set_option maxRecDepth 100000 in
theorem specPiecesForRun_any (run : Int) (w : World) :
    Calls Try.prog 43 #[.int .i64 run] w fun e w' => ∃ u, e = .returned (.tuple #[u, .bool (prB run)]) ∧ Ow w' w.heap.size u (prR run) ∧ Below w.heap.size w w' := by
  by_cases hi : inB run 0 9841 = true
  · obtain ⟨hi0, hi1⟩ := inB_iff.1 hi
    have HB := Lib.hid (show prB run = true from hi)
    go_enter Try.func43, Try.ntmps43
    go_wp2_with fail
    refine (l1In_any _ _ _ _).mono ?_
    rintro e w1' ⟨rfl, rfl⟩
    go_wp2_with fail
    go_loopw [4, 5] (fun a i wr => ∃ k : Nat, i = .int .i64 (p3 k) ∧ Hid (∀ j, j < k → sumP (prL j) < run) ∧ Ow wr w.heap.size a (prL k) ∧ Below w.heap.size w wr) (fun _ i _ => 20000 - (intOf i).toNat)
    case atStart => exact ⟨0, rfl, Lib.hid (fun j hj => by omega), ow_nil _ _, Below.refl _ _⟩
    case round =>
      obtain ⟨k, rfl, HJ, ho, hb⟩ := hrel
      have hz := hb.size
      have hk9 := prK_small hi1 HJ.out
      have hgd := prL_good hk9
      have hsum := prL_sum k
      have hp := p3_pos k
      have hp9 := p3_mono hk9
      rw [p3_nine] at hp9
      have hll := prL_len k
      obtain ⟨s, es⟩ : ∃ s, sumP (prL k) = s := ⟨_, rfl⟩
      have ES := Lib.hid es
      rw [es] at hsum
      by_cases hlt : s < run
      · have hk8 : k < 9 := by
          by_cases e : k = 9
          · subst e; rw [p3_nine] at hsum; omega
          · omega
        have hp8 := p3_mono (show k ≤ 8 by omega)
        have h8 : p3 8 = 6561 := by decide
        rw [h8] at hp8
        have SU := Lib.hid (prL_succ k)
        have PS := Lib.hid (p3_succ k)
        have HJ2 : Hid (∀ j, j < k + 1 → sumP (prL j) < run) := Lib.hid (fun j hj => by
          by_cases e : j = k
          · subst e; rw [ES.out]; exact hlt
          · exact HJ.out j (by omega))
        obtain ⟨q, eq⟩ : ∃ q, p3 k = q := ⟨_, rfl⟩
        rw [eq] at hp hp8 hp9 SU PS ⊢
        have hw : IntKind.i64.wrap (q * 3) = q * 3 := IntWalk.i64_in _ (by omega)
        obtain ⟨L, eL⟩ : ∃ L, prL k = L := ⟨_, rfl⟩
        rw [eL] at ho SU hll hgd ES
        clear eq eL hsum h8 es
        go_wp2_with fail
        refine (piSum_any _ _ _ ho.sv hgd).mono ?_
        rintro e w2 ⟨rfl, rfl⟩
        rw [ES.out]
        go_wp2_with (at_builtin; refine wpList_append_src rfl _ _ rfl w.heap.size _ L rfl (ho.alloc _) _ [q] rfl (src_one _ _) (by simp only [List.length_cons, List.length_nil]; omega) (by simp; omega) ?_; intro v' w3 h3 g3)
        have b3 := (hb.alloc hz _).trans ((ho.alloc _).grown (by simp; omega) g3)
        clear ho g3 hb
        go_wp2
        go_roundw
        case rel => exact ⟨k + 1, by rw [PS.out]; congr 1; omega, HJ2, by rw [SU.out]; exact h3, b3⟩
        case measure => simp only [intOf]; omega
      · have R := Lib.hid (prR_yes (k := k) HB.out ⟨by rw [es]; omega, HJ.out⟩)
        obtain ⟨L, eL⟩ : ∃ L, prL k = L := ⟨_, rfl⟩
        rw [eL] at ho R hll hgd ES
        clear es eL
        go_wp2_with fail
        refine (piSum_any _ _ _ ho.sv hgd).mono ?_
        rintro e w2 ⟨rfl, rfl⟩
        rw [ES.out]
        go_wp2_with fail
        go_ret2
        exact ⟨_, ret_lbx rfl HB.out.symm, by rw [R.out]; exact ho, hb⟩
  · have hi : inB run 0 9841 = false := by simpa using hi
    have HB := Lib.hid (show prB run = false from hi)
    have R := Lib.hid (prR_no HB.out)
    go_enter Try.func43, Try.ntmps43
    go_wp2_with fail
    refine (l1In_any _ _ _ _).mono ?_
    rintro e w1' ⟨rfl, rfl⟩
    go_wp2_with fail
    go_ret2
    exact ⟨_, ret_lbx rfl HB.out.symm, by rw [R.out]; exact ow_nil _ _, Below.refl _ _⟩

set_option maxHeartbeats 4000000 in
set_option maxRecDepth 100000 in
theorem implPiecesForRun_any (run : Int) (w : World) :
    Calls Try.prog 44 #[.int .i64 run] w fun e w' => ∃ u, e = .returned (.tuple #[u, .bool (prB run)]) ∧ Ow w' w.heap.size u (prR run) ∧ Below w.heap.size w w' := by
  by_cases hi : inB run 0 9841 = true
  · obtain ⟨hi0, hi1⟩ := inB_iff.1 hi
    have HB := Lib.hid (show prB run = true from hi)
    have d0 : decide (run < 0) = false := by simp; omega
    have d1 : decide (9841 < run) = false := by simp; omega
    go_enter Try.func44, Try.ntmps44
    go_wp2_with fail
    go_loopw [4, 5, 6] (fun a s i wr => ∃ k : Nat, i = .int .i64 (p3 k) ∧ s = .int .i64 (sumP (prL k)) ∧ Hid (∀ j, j < k → sumP (prL j) < run) ∧ Ow wr w.heap.size a (prL k) ∧ Below w.heap.size w wr) (fun _ _ i _ => 20000 - (intOf i).toNat)
    case atStart => exact ⟨0, rfl, rfl, Lib.hid (fun j hj => by omega), ow_empty w, (Below.refl _ _).alloc (Nat.le_refl _) _⟩
    case round =>
      obtain ⟨k, rfl, rfl, HJ, ho, hb⟩ := hrel
      have hz := hb.size
      have hk9 := prK_small hi1 HJ.out
      have hsum := prL_sum k
      have hsum2 := prL_sum (k + 1)
      have hp := p3_pos k
      have hp9 := p3_mono hk9
      rw [p3_nine] at hp9
      have hll := prL_len k
      by_cases hlt : sumP (prL k) < run
      · have hk8 : k < 9 := by
          by_cases e : k = 9
          · subst e; rw [p3_nine] at hsum; omega
          · omega
        have hp8 := p3_mono (show k ≤ 8 by omega)
        have h8 : p3 8 = 6561 := by decide
        rw [h8] at hp8
        have SU := Lib.hid (prL_succ k)
        have PS := Lib.hid (p3_succ k)
        have SM : Hid (sumP (prL (k + 1)) = sumP (prL k) + p3 k) := Lib.hid (by have := p3_succ k; omega)
        have HJ2 : Hid (∀ j, j < k + 1 → sumP (prL j) < run) := Lib.hid (fun j hj => by
          by_cases e : j = k
          · subst e; exact hlt
          · exact HJ.out j (by omega))
        obtain ⟨s, es⟩ : ∃ s, sumP (prL k) = s := ⟨_, rfl⟩
        rw [es] at hlt hsum SM ⊢
        obtain ⟨q, eq⟩ : ∃ q, p3 k = q := ⟨_, rfl⟩
        rw [eq] at hp hp8 hp9 SU PS SM hsum ⊢
        have hw : IntKind.i64.wrap (q * 3) = q * 3 := IntWalk.i64_in _ (by omega)
        have hw2 : IntKind.i64.wrap (s + q) = s + q := IntWalk.i64_in _ (by omega)
        obtain ⟨L, eL⟩ : ∃ L, prL k = L := ⟨_, rfl⟩
        rw [eL] at ho SU hll
        clear eq eL h8 es hsum hsum2
        go_wp2_with (at_builtin; refine wpList_append_src rfl _ _ rfl w.heap.size _ L rfl (ho.alloc _) _ [q] rfl (src_one _ _) (by simp only [List.length_cons, List.length_nil]; omega) (by simp; omega) ?_; intro v' w3 h3 g3)
        have b3 := (hb.alloc hz _).trans ((ho.alloc _).grown (by simp; omega) g3)
        clear ho g3 hb
        go_wp2
        go_roundw
        case rel => exact ⟨k + 1, by rw [PS.out]; congr 1; omega, by rw [SM.out], HJ2, by rw [SU.out]; exact h3, b3⟩
        case measure => simp only [intOf]; omega
      · have R := Lib.hid (prR_yes (k := k) HB.out ⟨by omega, HJ.out⟩)
        obtain ⟨s, es⟩ : ∃ s, sumP (prL k) = s := ⟨_, rfl⟩
        rw [es] at hlt ⊢
        obtain ⟨L, eL⟩ : ∃ L, prL k = L := ⟨_, rfl⟩
        rw [eL] at ho R hll
        clear es eL hsum hsum2
        go_wp2_with fail
        go_ret2
        exact ⟨_, ret_lbx rfl HB.out.symm, by rw [R.out]; exact ho, hb⟩
  · have hi : inB run 0 9841 = false := by simpa using hi
    have HB := Lib.hid (show prB run = false from hi)
    have R := Lib.hid (prR_no HB.out)
    have hin : ¬ (0 ≤ run ∧ run ≤ 9841) := fun h => by rw [inB_iff.2 h] at hi; cases hi
    by_cases h0 : run < 0
    · go_enter Try.func44, Try.ntmps44
      go_wp2_with fail
      go_ret2
      exact ⟨_, ret_lbx rfl HB.out.symm, by rw [R.out]; exact ow_nil _ _, Below.refl _ _⟩
    · have h1 : 9841 < run := by omega
      clear hin
      go_enter Try.func44, Try.ntmps44
      go_wp2_with fail
      go_ret2
      exact ⟨_, ret_lbx rfl HB.out.symm, by rw [R.out]; exact ow_nil _ _, Below.refl _ _⟩

end Go.Proofs.Ytcgifmoddojnmaa
