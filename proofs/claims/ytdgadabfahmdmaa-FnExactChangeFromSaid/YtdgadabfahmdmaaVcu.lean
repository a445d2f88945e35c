/-
  Coins counted out of an amount, step by step, plainly. No condition; no program is spoken of here.
-/
import Derived.Test.YtdgadabfahmdmaaVfe
namespace Go.Proofs.Ytdgadabfahmdmaa

/-- One coin more of each kind named. -/
def bump (z : List Nat) : List Nat → List Nat
  | [] => z
  | k :: ks => bump (z.set k (z.getD k 0 + 1)) ks
/-- What coins of these kinds are together. -/
def cost (cs : List Nat) : List Nat → Nat
  | [] => 0
  | k :: ks => cs.getD k 0 + cost cs ks
theorem bump_len (z : List Nat) : ∀ ks, (bump z ks).length = z.length := by
  intro ks
  induction ks generalizing z with
  | nil => rfl
  | cons k ks ih => simp [bump, ih]
theorem bump_snoc (z : List Nat) (k : Nat) : ∀ ks, bump z (ks ++ [k]) = (bump z ks).set k ((bump z ks).getD k 0 + 1) := by
  intro ks
  induction ks generalizing z with
  | nil => rfl
  | cons j ks ih => simp only [List.cons_append, bump]; exact ih _
theorem cost_snoc (cs : List Nat) (k : Nat) : ∀ ks, cost cs (ks ++ [k]) = cost cs ks + cs.getD k 0 := by
  intro ks
  induction ks with
  | nil => simp [cost]
  | cons j ks ih => simp only [List.cons_append, cost, ih]; omega
theorem cost_take {cs ks : List Nat} {i : Nat} (hi : i < ks.length) : cost cs (ks.take (i + 1)) = cost cs (ks.take i) + cs.getD (ks.getD i 0) 0 := by
  rw [take_snocN hi, cost_snoc]
theorem bump_take {z ks : List Nat} {i : Nat} (hi : i < ks.length) : bump z (ks.take (i + 1)) = (bump z (ks.take i)).set (ks.getD i 0) ((bump z (ks.take i)).getD (ks.getD i 0) 0 + 1) := by
  rw [take_snocN hi, bump_snoc]
theorem cost_le (cs : List Nat) (ks : List Nat) : ∀ i, cost cs (ks.take i) ≤ cost cs ks := by
  induction ks with
  | nil => intro i; simp
  | cons k ks ih =>
    intro i
    cases i with
    | zero => simp [cost]
    | succ i => simp only [List.take_succ_cons, cost]; have := ih i; omega
theorem cost_len {cs : List Nat} (hp : Pos cs) : ∀ {ks : List Nat}, (∀ k ∈ ks, k < cs.length) → ks.length ≤ cost cs ks := by
  intro ks
  induction ks with
  | nil => intro _; simp
  | cons k ks ih =>
    intro h
    have h1 := hp _ (at_mem (h k (by simp)))
    have h2 := ih fun j hj => h j (by simp [hj])
    simp only [List.length_cons, cost]
    omega
theorem getD_setN (z : List Nat) (k j x : Nat) (hk : k < z.length) : (z.set k x).getD j 0 = if j = k then x else z.getD j 0 := by
  rw [List.getD_eq_getElem?_getD, List.getElem?_set]
  by_cases e : k = j
  · subst e; simp [hk]
  · have e2 : ¬ j = k := fun h => e h.symm
    rw [if_neg e, if_neg e2, ← List.getD_eq_getElem?_getD]
/-- No count grows by more than what is counted. -/
theorem bump_bd {cs : List Nat} (hp : Pos cs) : ∀ {ks z : List Nat}, (∀ k ∈ ks, k < cs.length) → z.length = cs.length → ∀ j, (bump z ks).getD j 0 ≤ z.getD j 0 + cost cs ks := by
  intro ks
  induction ks with
  | nil => intro z _ _ j; simp [bump, cost]
  | cons k ks ih =>
    intro z h hz j
    have h1 := hp _ (at_mem (h k (by simp)))
    have h2 := ih (z := z.set k (z.getD k 0 + 1)) (fun j hj => h j (by simp [hj])) (by simp [hz]) j
    have hk := h k (by simp)
    rw [getD_setN _ _ _ _ (by omega)] at h2
    simp only [bump, cost]
    by_cases e : j = k
    · subst e; rw [if_pos rfl] at h2; omega
    · rw [if_neg e] at h2; omega

def co (cs : List Nat) (step : Nat → List Nat) : Nat → List Nat → Nat → List Nat × Nat
  | 0, z, l => (z, l)
  | f + 1, z, l => if l = 0 ∨ step l = [] then (z, l) else co cs step f (bump z (step l)) (l - cost cs (step l))
/-- Steps that take kinds of coins, and no more than there is. -/
structure StepOk (cs : List Nat) (step : Nat → List Nat) (m : Nat) : Prop where
  kd : ∀ l, 0 < l → l ≤ m → ∀ k ∈ step l, k < cs.length
  le : ∀ l, 0 < l → l ≤ m → cost cs (step l) ≤ l
theorem StepOk.lt {cs : List Nat} {step : Nat → List Nat} {m l : Nat} (h : StepOk cs step m) (hp : Pos cs) (h0 : 0 < l) (hl : l ≤ m) (hn : step l ≠ []) : l - cost cs (step l) < l := by
  have h1 := cost_len hp (h.kd l h0 hl)
  have h2 : 0 < (step l).length := List.length_pos_iff.2 hn
  omega
theorem co_stop (cs : List Nat) (step : Nat → List Nat) (f : Nat) (z : List Nat) {l : Nat} (h : l = 0 ∨ step l = []) : co cs step f z l = (z, l) := by
  cases f with
  | zero => rfl
  | succ f => simp only [co]; rw [if_pos h]
/-- What holds at the beginning and is kept by each step holds at the end; and there nothing can be taken. -/
theorem co_inv {cs : List Nat} {step : Nat → List Nat} {m : Nat} (hs : StepOk cs step m) (hp : Pos cs) (J : List Nat → Nat → Prop)
    (hJ : ∀ z l, 0 < l → l ≤ m → step l ≠ [] → J z l → J (bump z (step l)) (l - cost cs (step l))) :
    ∀ (f : Nat) (z : List Nat) (l : Nat), l ≤ f → l ≤ m → J z l → J (co cs step f z l).1 (co cs step f z l).2 ∧ ((co cs step f z l).2 = 0 ∨ step (co cs step f z l).2 = []) := by
  intro f
  induction f with
  | zero => intro z l h _ hj; exact ⟨hj, .inl (by show l = 0; omega)⟩
  | succ f ih =>
    intro z l h hm hj
    simp only [co]
    by_cases e : l = 0 ∨ step l = []
    · rw [if_pos e]; exact ⟨hj, e⟩
    · rw [if_neg e]
      have h0 : 0 < l := Nat.pos_of_ne_zero fun g => e (.inl g)
      have hn : step l ≠ [] := fun g => e (.inr g)
      have hlt := hs.lt hp h0 hm hn
      exact ih _ _ (by omega) (by omega) (hJ z l h0 hm hn hj)
/-- The end of the counting: all counts, or none where something is left. -/
def coB (cs : List Nat) (step : Nat → List Nat) (m : Nat) : Bool := decide ((co cs step m (List.replicate cs.length 0) m).2 = 0)
def coR (cs : List Nat) (step : Nat → List Nat) (m : Nat) : List Nat := if coB cs step m = true then (co cs step m (List.replicate cs.length 0) m).1 else []
end Go.Proofs.Ytdgadabfahmdmaa
