/-
  The lexicographically first change with the fewest coins, plainly. No condition; no program is spoken of here.
-/
import Derived.Test.YtdgadabfahmdmaaVgp
namespace Go.Proofs.Ytdgadabfahmdmaa

/-- The first kind that the first best change has. -/
def kdx : List Nat → Nat → Nat
  | [], _ => 0
  | c :: cs, a => if fo cs a = fo (c :: cs) a then kdx cs a + 1 else 0
theorem pdT_k : ∀ (cs : List Nat) (k : Nat), Pos cs → ∀ a, 0 < a → a < big → fo cs a < big → (pdT k cs a).k = k + kdx cs a := by
  intro cs
  induction cs with
  | nil => intro k _ a h0 _ h; rw [fo_nil, if_neg (by omega)] at h; omega
  | cons c cs ih =>
    intro k hp a h0 ha h
    have h1 := hp.head
    have hP := pdT_fo cs (k + 1) hp.tail a ha
    by_cases hc : c ≤ a
    · have e : pdT k (c :: cs) a = orW k (pdT (k + 1) cs a) (pdT k (c :: cs) (a - c)) := pass_high h1 hc
      have hR := pdT_fo (c :: cs) k hp (a - c) (by omega)
      have ef := fo_high (cs := cs) h1 hc
      rw [e]
      unfold orW
      simp only [kdx]
      rcases hR with ⟨r1, r2⟩ | ⟨r1, r2, r3⟩
      · rw [if_pos r1]
        have e2 : fo cs a = fo (c :: cs) a := by have := fo_big hp.tail a; omega
        rw [if_pos e2, ih (k + 1) hp.tail a h0 ha (by omega)]
        omega
      · rw [if_neg (by omega)]
        by_cases hx : (pdT (k + 1) cs a).w = 0 ∨ (pdT k (c :: cs) (a - c)).f + 1 < (pdT (k + 1) cs a).f
        · rw [if_pos hx]
          have e2 : ¬ fo cs a = fo (c :: cs) a := by
            rcases hP with ⟨p1, p2⟩ | ⟨p1, p2, p3⟩ <;> omega
          rw [if_neg e2]; rfl
        · rw [if_neg hx]
          have e2 : fo cs a = fo (c :: cs) a := by
            rcases hP with ⟨p1, p2⟩ | ⟨p1, p2, p3⟩ <;> omega
          rw [if_pos e2]
          show (pdT (k + 1) cs a).k = _
          rw [ih (k + 1) hp.tail a h0 ha (by omega)]
          omega
    · have e : pdT k (c :: cs) a = pdT (k + 1) cs a := pass_low (by omega)
      have e2 := fo_low (cs := cs) (c := c) (a := a) (by omega)
      rw [e]
      simp only [kdx]
      rw [if_pos e2.symm, ih (k + 1) hp.tail a h0 ha (by omega)]
      omega
def inc : List Nat → List Nat
  | [] => []
  | m :: ms => (m + 1) :: ms
def lf : List Nat → Nat → List Nat
  | [] => fun _ => []
  | c :: cs => pass c (fun a x y => if fo cs a = fo (c :: cs) a then x else inc y) (fun a => 0 :: lf cs a)
theorem inc_len (l : List Nat) : (inc l).length = l.length := by cases l <;> rfl
theorem lf_len : ∀ (cs : List Nat), Pos cs → ∀ a, (lf cs a).length = cs.length := by
  intro cs
  induction cs with
  | nil => intro _ a; rfl
  | cons c cs ih =>
    intro hp a
    refine pass_rel (β := List Nat) (γ := Unit) (t := fun _ x _ => x) (g := fun _ => ()) (fun _ l _ => l.length = (c :: cs).length) hp.head (fun a x y _ _ _ hx hy => ?_) a fun j _ => ?_
    · split
      · exact hx
      · rw [inc_len]; exact hy
    · simp [ih hp.tail]
theorem lf_eq {c : Nat} {cs : List Nat} {a : Nat} (h1 : 1 ≤ c) (h : fo cs a = fo (c :: cs) a) : lf (c :: cs) a = 0 :: lf cs a := by
  by_cases hc : c ≤ a
  · show pass c _ _ a = _
    rw [pass_high h1 hc, if_pos h]
  · exact pass_low (by omega)
theorem lf_ne {c : Nat} {cs : List Nat} {a : Nat} (h1 : 1 ≤ c) (hc : c ≤ a) (h : ¬ fo cs a = fo (c :: cs) a) : lf (c :: cs) a = inc (lf (c :: cs) (a - c)) := by
  show pass c _ _ a = _
  rw [pass_high h1 hc, if_neg h]
  rfl
theorem inc_bump (l : List Nat) : inc l = bump l [0] := by cases l <;> simp [inc, bump]
theorem bump_cons (x : Nat) (l : List Nat) (i : Nat) : bump (x :: l) [i + 1] = x :: bump l [i] := by
  simp [bump]
/-- Of the first change all coins but one are the first change for what they are together. -/
theorem lf_step : ∀ (cs : List Nat), Pos cs → ∀ a, 0 < a → fo cs a < big → kdx cs a < cs.length ∧ cs.getD (kdx cs a) 0 ≤ a ∧ fo cs a = fo cs (a - cs.getD (kdx cs a) 0) + 1 ∧ lf cs a = bump (lf cs (a - cs.getD (kdx cs a) 0)) [kdx cs a] := by
  intro cs
  induction cs with
  | nil => intro _ a h0 h; rw [fo_nil, if_neg (by omega)] at h; omega
  | cons c cs ih =>
    intro hp a h0 h
    have h1 := hp.head
    by_cases e : fo cs a = fo (c :: cs) a
    · obtain ⟨g1, g2, g3, g4⟩ := ih hp.tail a h0 (by omega)
      have ek : kdx (c :: cs) a = kdx cs a + 1 := by simp [kdx, e]
      have eg : (c :: cs).getD (kdx cs a + 1) 0 = cs.getD (kdx cs a) 0 := by simp [List.getD_eq_getElem?_getD]
      rw [ek, eg]
      have hm := at_mem g1
      obtain ⟨d, ed⟩ : ∃ d, cs.getD (kdx cs a) 0 = d := ⟨_, rfl⟩
      rw [ed] at hm g2 g3 g4 ⊢
      have f1 := fo_mono (cs := cs) h1 (a - d)
      have f2 := fo_add hp d (by simp [hm]) a g2
      have e2 : fo cs (a - d) = fo (c :: cs) (a - d) := by omega
      refine ⟨by simp; exact g1, g2, by omega, ?_⟩
      rw [lf_eq h1 e, lf_eq h1 e2, bump_cons, ← g4]
    · have hc : c ≤ a := by
        apply Classical.byContradiction
        intro g
        exact e (fo_low (by omega)).symm
      have ek : kdx (c :: cs) a = 0 := by simp [kdx, e]
      have eg : (c :: cs).getD 0 0 = c := rfl
      have ef := fo_high (cs := cs) h1 hc
      rw [ek, eg]
      exact ⟨by simp, hc, by omega, by rw [lf_ne h1 hc e, inc_bump]⟩
theorem lf_zero : ∀ (cs : List Nat), Pos cs → lf cs 0 = List.replicate cs.length 0 := by
  intro cs
  induction cs with
  | nil => intro _; rfl
  | cons c cs ih =>
    intro hp
    rw [lf_eq hp.head (by rw [fo_zero hp, fo_zero hp.tail]), ih hp.tail]
    rfl
/-- The program's step. -/
def bstep (cs : List Nat) (l : Nat) : List Nat := if fo cs l < big then [kdx cs l] else []
theorem bstep_ok {cs : List Nat} (hp : Pos cs) (m : Nat) : StepOk cs (bstep cs) m := by
  refine ⟨fun l h0 _ k hk => ?_, fun l h0 _ => ?_⟩
  · unfold bstep at hk
    split at hk
    · rename_i h
      simp only [List.mem_cons, List.not_mem_nil, or_false] at hk
      rw [hk]; exact (lf_step cs hp l h0 h).1
    · cases hk
  · unfold bstep
    split
    · rename_i h
      have := (lf_step cs hp l h0 h).2.1
      simpa [cost] using this
    · simp [cost]
/-- Two lists added, place by place. -/
def addL : List Nat → List Nat → List Nat
  | x :: xs, y :: ys => (x + y) :: addL xs ys
  | _, _ => []
theorem addL_bump : ∀ (x y : List Nat) (i : Nat), addL (bump x [i]) y = addL x (bump y [i]) := by
  intro x
  induction x with
  | nil => intro y i; simp [bump, addL]
  | cons a x ih =>
    intro y i
    cases y with
    | nil =>
      cases i with
      | zero => simp [bump, addL]
      | succ i => rw [bump_cons]; simp [bump, addL]
    | cons b y =>
      cases i with
      | zero => simp [bump, addL]; omega
      | succ i => rw [bump_cons, bump_cons]; simp only [addL]; rw [ih]
theorem addL_zero : ∀ (x : List Nat) (n : Nat), n = x.length → addL x (List.replicate n 0) = x := by
  intro x
  induction x with
  | nil => intro n _; simp [addL]
  | cons a x ih => intro n h; subst h; simp [List.replicate_succ, addL, ih]
theorem zero_addL : ∀ (x : List Nat) (n : Nat), n = x.length → addL (List.replicate n 0) x = x := by
  intro x
  induction x with
  | nil => intro n _; subst_vars; simp [addL]
  | cons a x ih => intro n h; subst h; simp [List.replicate_succ, addL, ih]
theorem co_best {cs : List Nat} (hp : Pos cs) (m : Nat) : coB cs (bstep cs) m = decide (fo cs m < big) ∧ coR cs (bstep cs) m = if fo cs m < big then lf cs m else [] := by
  by_cases h : fo cs m < big
  · have h1 := co_inv (bstep_ok hp m) hp (fun z l => fo cs l < big ∧ z.length = cs.length ∧ addL z (lf cs l) = lf cs m) (fun z l h0 _ _ ht => by
      obtain ⟨t1, t2, t3⟩ := ht
      have es : bstep cs l = [kdx cs l] := by simp [bstep, t1]
      obtain ⟨g1, g2, g3, g4⟩ := lf_step cs hp l h0 t1
      rw [es]
      have ec : cost cs [kdx cs l] = cs.getD (kdx cs l) 0 := by simp [cost]
      rw [ec]
      refine ⟨by omega, by rw [bump_len]; exact t2, ?_⟩
      rw [addL_bump, ← g4]; exact t3) m (List.replicate cs.length 0) m (Nat.le_refl _) (Nat.le_refl _) ⟨h, by simp, zero_addL _ _ (by rw [lf_len cs hp])⟩
    obtain ⟨⟨t1, t2, t3⟩, he⟩ := h1
    have hz : (co cs (bstep cs) m (List.replicate cs.length 0) m).2 = 0 := by
      rcases he with he | he
      · exact he
      · simp [bstep, t1] at he
    rw [hz, lf_zero cs hp, addL_zero _ _ t2.symm] at t3
    have hB : coB cs (bstep cs) m = true := by unfold coB; rw [hz]; rfl
    refine ⟨by rw [hB]; simp [h], ?_⟩
    unfold coR
    rw [hB, if_pos rfl, if_pos h, t3]
  · have h0 : ¬ m = 0 := by intro e; rw [e, fo_zero hp] at h; exact h (by decide)
    have es : bstep cs m = [] := by simp [bstep, h]
    have e := co_stop cs (bstep cs) m (List.replicate cs.length 0) (l := m) (.inr es)
    have hB : coB cs (bstep cs) m = false := by unfold coB; rw [e]; simp [h0]
    refine ⟨by rw [hB]; simp [h], ?_⟩
    unfold coR
    rw [hB, if_neg h]; rfl

/-- The model: coins of the first kind are taken while the others cannot do. -/
def addH (t : Nat) : List Nat → List Nat
  | [] => []
  | x :: l => (t + x) :: l
theorem lf_take {c : Nat} {cs : List Nat} (h1 : 1 ≤ c) {a t : Nat} {L : List Nat} (hL : L = addH t (lf (c :: cs) a)) (hn : ¬ fo cs a = fo (c :: cs) a) :
    c ≤ a ∧ fo (c :: cs) a = fo (c :: cs) (a - c) + 1 ∧ L = addH (t + 1) (lf (c :: cs) (a - c)) := by
  have hc : c ≤ a := by
    apply Classical.byContradiction
    intro g
    exact hn (fo_low (by omega)).symm
  have ef := fo_high (cs := cs) h1 hc
  have hb := fo_mono (cs := cs) h1 a
  refine ⟨hc, by omega, ?_⟩
  rw [hL, lf_ne h1 hc hn]
  cases lf (c :: cs) (a - c) with
  | nil => rfl
  | cons x l => simp [inc, addH]; omega
theorem lf_leave {c : Nat} {cs : List Nat} (h1 : 1 ≤ c) {a t : Nat} {L : List Nat} (hL : L = addH t (lf (c :: cs) a)) (hn : fo cs a = fo (c :: cs) a) : L = t :: lf cs a := by
  rw [hL, lf_eq h1 hn]; simp [addH]
end Go.Proofs.Ytdgadabfahmdmaa
