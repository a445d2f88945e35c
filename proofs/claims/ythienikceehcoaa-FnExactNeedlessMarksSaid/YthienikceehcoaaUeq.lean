/-
  Two sets of lengths compared as arrays. No condition.
-/
import Derived.ChangeKeysEq
import Derived.Test.YthienikceehcoaaUpc
namespace Go.Proofs.Ythienikceehcoaa
open Go.RowKit

theorem Try.boolU : Try.prog.underlying 4 = some .bool := by kernel_rfl
theorem Try.boolK : Try.prog.plainKey 4 = true := by kernel_rfl
theorem Try.boolC : Try.prog.cellsOf 4 = 1 := by kernel_rfl
theorem Try.setG : Try.prog.eqGuardType Try.prog.depth 33 = false := by kernel_rfl
theorem items_run (d : Nat) (p q : Int → Bool) (w : World) : ∀ is : List Nat, (∀ i ∈ is, i < 61) →
    (Op.eqItems (d + 1) 4 1 (bA p) (bA q) is).run Try.prog w = .ok (decide (∀ i ∈ is, p (i : Int) = q (i : Int))) w := by
  intro is
  induction is with
  | nil => intro _; simp [Op.eqItems]
  | cons i is ih =>
    intro h
    have hi := h i (by simp)
    have h1 : (bA p)[i * 1]? = some (.bool (p (i : Int))) := by rw [Nat.mul_one]; exact arG_at _ hi
    have h2 : (bA q)[i * 1]? = some (.bool (q (i : Int))) := by rw [Nat.mul_one]; exact arG_at _ hi
    simp only [Op.eqItems, Sem.run_bind, run_part_plain w Try.boolK h1, run_part_plain w Try.boolK h2, Result.andThen_ok, run_equalIn_bool w d _ _ _ Try.boolU]
    by_cases e : p (i : Int) = q (i : Int)
    · have e1 : (!(p (i : Int) == q (i : Int))) = false := by simp [e]
      simp only [e1, Bool.false_eq_true, if_false]
      rw [ih fun j hj => h j (by simp [hj])]
      have e2 : decide (∀ j ∈ i :: is, p (j : Int) = q (j : Int)) = decide (∀ j ∈ is, p (j : Int) = q (j : Int)) := by
        rw [Bool.eq_iff_iff]; simp [e]
      rw [e2]
    · have e1 : (!(p (i : Int) == q (i : Int))) = true := by simp [e]
      have e2 : decide (∀ j ∈ i :: is, p (j : Int) = q (j : Int)) = false := by
        rw [decide_eq_false_iff_not]; intro g; exact e (g i (by simp))
      rw [e2]
      simp only [e1, if_true]
      rfl
noncomputable def sameB (p q : Int → Bool) : Bool := decide (∀ i ∈ List.range 61, p ((i : Nat) : Int) = q ((i : Nat) : Int))
theorem sameB_iff {p q : Int → Bool} : sameB p q = true ↔ ∀ j : Nat, j < 61 → p j = q j := by simp [sameB]
theorem set_eq (p q : Int → Bool) (w : World) : (Op.equalIn 10000 33 (.agg (bA p)) (.agg (bA q))).run Try.prog w = .ok (sameB p q) w := by
  have hi : ∃ i, Try.prog.info? 4 = some i := by
    cases hq : Try.prog.info? 4 with
    | some i => exact ⟨i, rfl⟩
    | none => exact absurd Try.boolU (by simp [Program.underlying, hq])
  obtain ⟨i, hi⟩ := hi
  rw [show (10000 : Nat) = 9998 + 1 + 1 from rfl, run_equalIn_array w 9999 (bA p) (bA q) Try.setU hi, Try.boolC]
  exact items_run 9998 p q w (List.range 61) fun i hi => List.mem_range.1 hi
end Go.Proofs.Ythienikceehcoaa
