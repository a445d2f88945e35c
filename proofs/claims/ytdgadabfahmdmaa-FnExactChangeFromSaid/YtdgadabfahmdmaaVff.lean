/-
  The amounts for which greedy change fails, plainly. No condition; no program is spoken of here.
-/
import Derived.Test.YtdgadabfahmdmaaVgp
namespace Go.Proofs.Ytdgadabfahmdmaa

theorem fails_rest {cs : List Nat} {a : Nat} (h : fo cs a < big) (hz : (gr cs a).2 ≠ 0) : decide (Fails cs a) = true := by
  rw [decide_eq_true_eq]; exact ⟨h, .inl hz⟩
theorem fails_few {cs : List Nat} {a : Nat} (h : fo cs a < big) (hz : (gr cs a).2 = 0) : decide (Fails cs a) = decide (fo cs a < tot (gr cs a).1) := by
  have : Fails cs a ↔ fo cs a < tot (gr cs a).1 := ⟨fun g => g.2.resolve_left (fun e => e hz), fun g => ⟨h, .inr g⟩⟩
  by_cases g : fo cs a < tot (gr cs a).1
  · rw [decide_eq_true (this.2 g), decide_eq_true g]
  · rw [decide_eq_false (fun e => g (this.1 e)), decide_eq_false g]
theorem fails_free {cs : List Nat} {a : Nat} (h : ¬ fo cs a < big) : decide (Fails cs a) = false := by
  rw [decide_eq_false_iff_not]; exact fun g => h g.1
/-- The failures below n, increasing. -/
def flT (cs : List Nat) (n : Nat) : List Nat := (List.range n).filter (fun a => decide (Fails cs a))
theorem flT_succ (cs : List Nat) (n : Nat) : flT cs (n + 1) = flT cs n ++ if Fails cs n then [n] else [] := by
  unfold flT
  rw [List.range_succ, List.filter_append]
  by_cases h : Fails cs n <;> simp [h]
theorem flT_len (cs : List Nat) (n : Nat) : (flT cs n).length ≤ n := by
  unfold flT
  have := List.length_filter_le (fun a => decide (Fails cs a)) (List.range n)
  simpa using this
theorem flT_none {cs : List Nat} : ∀ {n : Nat}, (∀ b, b < n → ¬ Fails cs b) → flT cs n = [] := by
  intro n
  induction n with
  | zero => intro _; rfl
  | succ n ih => intro h; rw [flT_succ, ih fun b hb => h b (by omega), if_neg (h n (by omega))]; rfl
theorem flT_head {cs : List Nat} {a : Nat} (ha : Fails cs a) (hb : ∀ b, b < a → ¬ Fails cs b) : ∀ {n : Nat}, a < n → (flT cs n).head? = some a := by
  intro n
  induction n with
  | zero => intro h; omega
  | succ n ih =>
    intro h
    rw [flT_succ, List.head?_append]
    by_cases e : a = n
    · subst e
      rw [flT_none hb, if_pos ha]; rfl
    · rw [ih (by omega)]; rfl
theorem flT_mem {cs : List Nat} {n : Nat} (h : flT cs n = []) : ∀ b, b < n → ¬ Fails cs b := by
  intro b hb hf
  have : b ∈ flT cs n := by unfold flT; simp [hb, hf]
  rw [h] at this; cases this
/-- The first failure, if there is one. -/
def ffO (cs : List Nat) : Option Nat := (flT cs (2 * lastC cs + 1)).head?
theorem ff_some {cs : List Nat} (h : Cn cs) {a : Nat} (ha : Fails cs a) (hb : ∀ b, b < a → ¬ Fails cs b) : ffO cs = some a := by
  refine flT_head ha hb ?_
  apply Classical.byContradiction
  intro g
  exact fails_first h.pos h.ne h.le_last (by omega) hb ha
theorem ff_none {cs : List Nat} (h : ∀ b, ¬ Fails cs b) : ffO cs = none := by
  unfold ffO
  rw [flT_none fun b _ => h b]; rfl
/-- The amount up to which the model looks. -/
def bnd (cs : List Nat) : Nat := if cs.length = 1 then cs.getD 0 0 else max (lastC cs * cs.getD (cs.length - 2) 0) (2 * lastC cs)
theorem bnd_le {cs : List Nat} (h : Cn cs) : bnd cs ≤ 1000000 := by
  have h1 := h.last_bd
  have h2 := h.one
  unfold bnd
  split
  · rename_i e
    have := h.bd 0 (by omega)
    omega
  · rename_i e
    have h3 := h.bd (cs.length - 2) (by omega)
    have h4 : lastC cs * cs.getD (cs.length - 2) 0 ≤ 1000 * 1000 := Nat.mul_le_mul h1.2 h3.2
    omega
theorem bnd_none {cs : List Nat} (h : Cn cs) (hb : ∀ b, b < bnd cs + 1 → ¬ Fails cs b) : ∀ b, ¬ Fails cs b := by
  by_cases e : cs.length = 1
  · match cs, e with
    | [c], _ => exact fails_one (h.pos c (by simp))
  · have e2 : 2 * lastC cs ≤ bnd cs := by unfold bnd; rw [if_neg e]; omega
    exact fails_none h.pos h.ne h.le_last fun a ha => hb a (by omega)
theorem ff_bound {cs : List Nat} (h : Cn cs) (hb : ∀ b, b < bnd cs + 1 → ¬ Fails cs b) : ffO cs = none := ff_none (bnd_none h hb)
end Go.Proofs.Ytdgadabfahmdmaa
