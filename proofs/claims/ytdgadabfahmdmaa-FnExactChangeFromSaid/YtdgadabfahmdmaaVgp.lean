/-
  Greedy change counted step by step is greedy change reckoned from the greatest coin on. No condition; no program is spoken of here.
-/
import Derived.Test.YtdgadabfahmdmaaVgs
namespace Go.Proofs.Ytdgadabfahmdmaa

theorem gsc_kinds {cs : List Nat} {l : Nat} : ∀ n, ∀ k ∈ gsc cs l n, k < n := by
  intro n
  induction n with
  | zero => intro k hk; cases hk
  | succ n ih =>
    intro k hk
    rw [gsc] at hk
    split at hk
    · have := (List.mem_replicate.1 hk).2; omega
    · have := ih k hk; omega
theorem cost_rep (cs : List Nat) (k : Nat) : ∀ q, cost cs (List.replicate q k) = q * cs.getD k 0 := by
  intro q
  induction q with
  | zero => simp [cost]
  | succ q ih => rw [List.replicate_succ, cost, ih, Nat.add_mul]; omega
theorem bump_rep {k : Nat} : ∀ (q : Nat) (z : List Nat), k < z.length → bump z (List.replicate q k) = z.set k (z.getD k 0 + q) := by
  intro q
  induction q with
  | zero =>
    intro z hk
    show z = z.set k (z.getD k 0)
    apply List.ext_getElem?
    intro j
    rw [List.getElem?_set]
    by_cases e : k = j
    · subst e; simp [hk]
    · rw [if_neg e]
  | succ q ih =>
    intro z hk
    rw [List.replicate_succ, bump, ih _ (by simpa using hk), getD_setN _ _ _ _ hk, if_pos rfl]
    rw [List.set_set]
    congr 1
    omega
theorem gsc_cost {cs : List Nat} {l : Nat} : ∀ n, cost cs (gsc cs l n) ≤ l := by
  intro n
  induction n with
  | zero => simp [gsc, cost]
  | succ n ih =>
    rw [gsc]
    split
    · rw [cost_rep]; exact Nat.div_mul_le_self _ _
    · exact ih
theorem gstep_ok (cs : List Nat) (m : Nat) : StepOk cs (gstep cs) m := ⟨fun _ _ _ k hk => gsc_kinds _ k hk, fun _ _ _ => gsc_cost _⟩
/-- The greatest kind that is at most what is left. -/
theorem gsc_spec {cs : List Nat} {l : Nat} : ∀ n, n ≤ cs.length → (gsc cs l n = [] ∧ ∀ i, i < n → l < cs.getD i 0) ∨ ∃ i, i < n ∧ cs.getD i 0 ≤ l ∧ (∀ j, i < j → j < n → l < cs.getD j 0) ∧ gsc cs l n = List.replicate (l / cs.getD i 0) i := by
  intro n
  induction n with
  | zero => intro _; exact .inl ⟨rfl, fun i hi => by omega⟩
  | succ n ih =>
    intro hn
    rw [gsc]
    by_cases h : cs.getD n 0 ≤ l
    · rw [if_pos h]; exact .inr ⟨n, by omega, h, fun j h1 h2 => by omega, rfl⟩
    · rw [if_neg h]
      rcases ih (by omega) with ⟨h1, h2⟩ | ⟨i, h1, h2, h3, h4⟩
      · exact .inl ⟨h1, fun i hi => by
          by_cases e : i = n
          · subst e; omega
          · exact h2 i (by omega)⟩
      · exact .inr ⟨i, by omega, h2, fun j hj1 hj2 => by
          by_cases e : j = n
          · subst e; omega
          · exact h3 j hj1 (by omega), h4⟩
/-- Kinds too great are skipped. -/
theorem gr_skip {cs : List Nat} {a l j : Nat} (hj : j ≤ cs.length) (hl : (gr (cs.drop j) a).2 = l) : ∀ d, d ≤ j → (∀ i, j - d ≤ i → i < j → l < cs.getD i 0) → gr (cs.drop (j - d)) a = (List.replicate d 0 ++ (gr (cs.drop j) a).1, l) := by
  intro d
  induction d with
  | zero => intro _ _; rw [Nat.sub_zero, ← hl]; rfl
  | succ d ih =>
    intro hd h
    have ih := ih (by omega) fun i h1 h2 => h i (by omega) h2
    have hx := h (j - (d + 1)) (by omega) (by omega)
    have e : j - d = j - (d + 1) + 1 := by omega
    rw [drop_consN cs (j - (d + 1)) (by omega), gr, ← e, ih]
    simp only [List.replicate_succ, List.cons_append]
    rw [Nat.div_eq_of_lt hx, Nat.mod_eq_of_lt hx]
structure Track (cs : List Nat) (m : Nat) (z : List Nat) (l : Nat) : Prop where
  ex : ∃ j, j ≤ cs.length ∧ z = List.replicate j 0 ++ (gr (cs.drop j) m).1 ∧ (gr (cs.drop j) m).2 = l ∧ ∀ i, j ≤ i → i < cs.length → l < cs.getD i 0
theorem Track.start (cs : List Nat) (m : Nat) : Track cs m (List.replicate cs.length 0) m := by
  refine ⟨cs.length, Nat.le_refl _, ?_, ?_, fun i h1 h2 => by omega⟩
  · rw [List.drop_length]; simp [gr]
  · rw [List.drop_length]; rfl
theorem Track.step {cs : List Nat} (h : Cn cs) {m : Nat} {z : List Nat} {l : Nat} (hn : gstep cs l ≠ []) (ht : Track cs m z l) : Track cs m (bump z (gstep cs l)) (l - cost cs (gstep cs l)) := by
  obtain ⟨j, hj, hz, hl, hlow⟩ := ht
  rcases gsc_spec cs.length (Nat.le_refl _) (l := l) with ⟨h1, _⟩ | ⟨i, hi, hc, hup, e⟩
  · exact (hn h1).elim
  · have hij : i < j := by
      apply Classical.byContradiction
      intro g
      have := hlow i (by omega) hi
      omega
    have hc1 := h.bd i hi
    have e2 : gstep cs l = List.replicate (l / cs.getD i 0) i := e
    rw [e2, cost_rep]
    have hsk := gr_skip (a := m) hj hl (j - (i + 1)) (by omega) (fun t h1 h2 => hup t (by omega) (by omega))
    rw [show j - (j - (i + 1)) = i + 1 by omega] at hsk
    have hmod : l - l / cs.getD i 0 * cs.getD i 0 = l % cs.getD i 0 := by
      have := Nat.div_add_mod l (cs.getD i 0)
      rw [Nat.mul_comm] at this
      omega
    rw [hmod]
    have hlen : i < z.length := by rw [hz]; simp; omega
    refine ⟨i, by omega, ?_, ?_, fun t h1 h2 => ?_⟩
    · rw [bump_rep _ _ hlen, drop_consN cs i hi, gr, hsk]
      have hz0 : z.getD i 0 = 0 := by
        rw [hz, List.getD_eq_getElem?_getD, List.getElem?_append_left (by simpa using hij)]
        simp [hij]
      rw [hz0, hz]
      apply List.ext_getElem?
      intro t
      rw [List.getElem?_set]
      by_cases e3 : i = t
      · subst e3
        rw [if_pos rfl, if_pos (by rw [← hz]; exact hlen), List.getElem?_append_right (by simp)]
        simp
      · rw [if_neg e3]
        by_cases h4 : t < i
        · rw [List.getElem?_append_left (by simp; omega), List.getElem?_append_left (by simpa using h4)]
          simp [h4, show t < j by omega]
        · obtain ⟨s, rfl⟩ : ∃ s, t = i + 1 + s := ⟨t - (i + 1), by omega⟩
          rw [List.getElem?_append_right (l₁ := List.replicate i 0) (by simp; omega)]
          simp only [List.length_replicate]
          rw [show i + 1 + s - i = s + 1 by omega, List.getElem?_cons_succ]
          by_cases h5 : i + 1 + s < j
          · rw [List.getElem?_append_left (by simpa using h5), List.getElem?_append_left (by simp; omega)]
            simp [h5, show s < j - (i + 1) by omega]
          · rw [List.getElem?_append_right (by simp; omega), List.getElem?_append_right (by simp; omega)]
            simp only [List.length_replicate]
            rw [show i + 1 + s - j = s - (j - (i + 1)) by omega]
    · rw [drop_consN cs i hi, gr, hsk]
    · have hm : l % cs.getD i 0 < cs.getD i 0 := Nat.mod_lt _ (by omega)
      by_cases e3 : t = i
      · subst e3; exact hm
      · exact Nat.lt_trans hm (h.lt' (i := i) (j := t) (by omega) h2)
theorem Track.done {cs : List Nat} (hp : Pos cs) {m : Nat} {z : List Nat} {l : Nat} (ht : Track cs m z l) (he : l = 0 ∨ gstep cs l = []) : gr cs m = (z, l) := by
  obtain ⟨j, hj, hz, hl, hlow⟩ := ht
  have hsk := gr_skip (a := m) hj hl j (Nat.le_refl _) (fun i _ h2 => by
    rcases he with h0 | h0
    · have := hp _ (at_mem (cs := cs) (j := i) (by omega)); omega
    · rcases gsc_spec cs.length (Nat.le_refl _) (l := l) with ⟨_, h1⟩ | ⟨i', hi', hc, _, e⟩
      · exact h1 i (by omega)
      · exfalso
        have e2 : gstep cs l = List.replicate (l / cs.getD i' 0) i' := e
        rw [h0] at e2
        have h3 : 0 < l / cs.getD i' 0 := Nat.div_pos hc (hp _ (at_mem hi'))
        have h4 := congrArg List.length e2
        simp only [List.length_nil, List.length_replicate] at h4
        omega)
  rw [Nat.sub_self, List.drop_zero] at hsk
  rw [hsk, ← hz]
theorem co_gr {cs : List Nat} (h : Cn cs) (m : Nat) : co cs (gstep cs) m (List.replicate cs.length 0) m = gr cs m := by
  have h1 := co_inv (gstep_ok cs m) h.pos (Track cs m) (fun z l _ _ hn ht => ht.step h hn) m (List.replicate cs.length 0) m (Nat.le_refl _) (Nat.le_refl _) (Track.start cs m)
  exact (h1.1.done h.pos h1.2).symm
theorem coB_gr {cs : List Nat} (h : Cn cs) (m : Nat) : coB cs (gstep cs) m = decide ((gr cs m).2 = 0) := by unfold coB; rw [co_gr h]
theorem coR_gr {cs : List Nat} (h : Cn cs) (m : Nat) : coR cs (gstep cs) m = if (gr cs m).2 = 0 then (gr cs m).1 else [] := by
  unfold coR; rw [coB_gr h, co_gr h]
  by_cases e : (gr cs m).2 = 0 <;> simp [e]
/-- The model's row while the kinds from k on are told. -/
def gz (cs : List Nat) (a k : Nat) : List Nat := List.replicate k 0 ++ (gr (cs.drop k) a).1
theorem gz_len {cs : List Nat} {a k : Nat} (hk : k ≤ cs.length) : (gz cs a k).length = cs.length := by
  simp [gz, gr_len]; omega
theorem gz_next {cs : List Nat} {a k : Nat} (hk : k < cs.length) : gz cs a k = (gz cs a (k + 1)).set k ((gr (cs.drop (k + 1)) a).2 / cs.getD k 0) ∧ (gr (cs.drop k) a).2 = (gr (cs.drop (k + 1)) a).2 % cs.getD k 0 := by
  have e := drop_consN cs k hk
  constructor
  · unfold gz
    rw [e, gr, List.replicate_succ', List.append_assoc]
    rw [List.set_append]
    simp
  · rw [e, gr]
theorem gz_zero (cs : List Nat) (a : Nat) : gz cs a 0 = (gr cs a).1 := by simp [gz]
theorem gz_top (cs : List Nat) (a : Nat) : gz cs a cs.length = List.replicate cs.length 0 ∧ (gr (cs.drop cs.length) a).2 = a := by
  simp [gz, gr]
end Go.Proofs.Ytdgadabfahmdmaa
