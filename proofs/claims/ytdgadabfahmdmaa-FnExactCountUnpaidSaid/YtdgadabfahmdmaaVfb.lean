/-
  Coins without a common divisor: all amounts from the product of the least and the greatest coin on have change. No condition; no program is spoken of here.
-/
import Derived.Test.YtdgadabfahmdmaaVpd
import Derived.Test.YtdgadabfahmdmaaVgg
namespace Go.Proofs.Ytdgadabfahmdmaa

/-- How many numbers below n are told. -/
noncomputable def cnt (p : Nat → Prop) : Nat → Nat
  | 0 => 0
  | n + 1 => cnt p n + @ite _ (p n) (Classical.propDecidable _) 1 0
theorem cnt_le (p : Nat → Prop) : ∀ n, cnt p n ≤ n := by
  intro n
  induction n with
  | zero => exact Nat.le_refl _
  | succ n ih => simp only [cnt]; split <;> omega
theorem cnt_mono {p q : Nat → Prop} (h : ∀ r, p r → q r) : ∀ n, cnt p n ≤ cnt q n := by
  intro n
  induction n with
  | zero => exact Nat.le_refl _
  | succ n ih =>
    simp only [cnt]
    by_cases hp : p n
    · rw [if_pos hp, if_pos (h n hp)]; omega
    · rw [if_neg hp]; split <;> omega
theorem cnt_more {p q : Nat → Prop} (h : ∀ r, p r → q r) : ∀ {n r : Nat}, r < n → q r → ¬ p r → cnt p n + 1 ≤ cnt q n := by
  intro n
  induction n with
  | zero => intro r hr; omega
  | succ n ih =>
    intro r hr hq hp
    simp only [cnt]
    by_cases e : r = n
    · subst e
      have := cnt_mono h r
      rw [if_neg hp, if_pos hq]; omega
    · have := ih (r := r) (by omega) hq hp
      by_cases hpn : p n
      · rw [if_pos hpn, if_pos (h n hpn)]; omega
      · rw [if_neg hpn]; split <;> omega
theorem cnt_pos {p : Nat → Prop} : ∀ {n r : Nat}, r < n → p r → 1 ≤ cnt p n := by
  intro n
  induction n with
  | zero => intro r hr; omega
  | succ n ih =>
    intro r hr hp
    simp only [cnt]
    by_cases e : r = n
    · subst e; rw [if_pos hp]; omega
    · have := ih (r := r) (by omega) hp; omega

/-- A sum of at most t coins. -/
def Rs (cs : List Nat) : Nat → Nat → Prop
  | 0, s => s = 0
  | t + 1, s => Rs cs t s ∨ ∃ c ∈ cs, ∃ s', Rs cs t s' ∧ s = s' + c
theorem rs_le {cs : List Nat} {M : Nat} (hM : ∀ c ∈ cs, c ≤ M) : ∀ t s, Rs cs t s → s ≤ t * M := by
  intro t
  induction t with
  | zero => intro s h; simp only [Rs] at h; omega
  | succ t ih =>
    intro s h
    rcases h with h | ⟨c, hc, s', h1, rfl⟩
    · have := ih s h; rw [Nat.add_mul]; omega
    · have := ih s' h1
      have := hM c hc
      rw [Nat.add_mul]; omega
theorem rs_fo {cs : List Nat} (hp : Pos cs) : ∀ t s, Rs cs t s → fo cs s ≤ t := by
  intro t
  induction t with
  | zero => intro s h; simp only [Rs] at h; subst h; rw [fo_zero hp]; exact Nat.le_refl _
  | succ t ih =>
    intro s h
    rcases h with h | ⟨c, hc, s', h1, rfl⟩
    · have := ih s h; omega
    · have h2 := ih s' h1
      have h3 := fo_add hp c hc (s' + c) (by omega)
      rw [Nat.add_sub_cancel] at h3
      omega
theorem rs_zero (cs : List Nat) : ∀ t, Rs cs t 0 := by
  intro t
  induction t with
  | zero => rfl
  | succ t ih => exact .inl ih
/-- The remainders of such sums. -/
def Rm (cs : List Nat) (n t r : Nat) : Prop := ∃ s, Rs cs t s ∧ s % n = r
/-- What can be added to all remainders. -/
def Dm (cs : List Nat) (n t d : Nat) : Prop := ∀ r, Rm cs n t r → Rm cs n t ((r + d) % n)
theorem rm_lt {cs : List Nat} {n t r : Nat} (hn : 1 ≤ n) (h : Rm cs n t r) : r < n := by
  obtain ⟨s, _, rfl⟩ := h; exact Nat.mod_lt _ (by omega)
theorem dm_add {cs : List Nat} {n t a b : Nat} (ha : Dm cs n t a) (hb : Dm cs n t b) : Dm cs n t (a + b) := by
  intro r hr
  have := hb _ (ha r hr)
  rw [Nat.mod_add_mod, Nat.add_assoc] at this
  exact this
theorem dm_zero {cs : List Nat} {n t : Nat} (hn : 1 ≤ n) : Dm cs n t 0 := by
  intro r hr
  rw [Nat.add_zero, Nat.mod_eq_of_lt (rm_lt hn hr)]; exact hr
theorem dm_mul {cs : List Nat} {n t a : Nat} (hn : 1 ≤ n) (ha : Dm cs n t a) : ∀ k, Dm cs n t (k * a) := by
  intro k
  induction k with
  | zero => rw [Nat.zero_mul]; exact dm_zero hn
  | succ k ih => rw [Nat.add_mul, Nat.one_mul]; exact dm_add ih ha
theorem dm_per {cs : List Nat} {n t a k : Nat} (h : Dm cs n t (a + k * n)) : Dm cs n t a := by
  intro r hr
  have := h r hr
  rw [← Nat.add_assoc, Nat.add_mul_mod_self_right] at this
  exact this
theorem dm_mod {cs : List Nat} {n t a b : Nat} (hn : 1 ≤ n) (ha : Dm cs n t a) (hb : Dm cs n t b) : Dm cs n t (a % b) := by
  have h1 := dm_add ha (dm_mul hn hb ((a / b) * (n - 1)))
  have e : a + a / b * (n - 1) * b = a % b + (a / b * b) * n := by
    have h2 := Nat.div_add_mod a b
    have h3 : a / b * (n - 1) * b + a / b * b = a / b * b * n := by
      obtain ⟨m, rfl⟩ : ∃ m, n = m + 1 := ⟨n - 1, by omega⟩
      rw [Nat.add_sub_cancel, Nat.mul_assoc, Nat.mul_comm m b, ← Nat.mul_assoc, Nat.mul_add, Nat.mul_one]
    have h4 : b * (a / b) = a / b * b := Nat.mul_comm _ _
    omega
  rw [e] at h1
  exact dm_per h1
theorem dm_gcd {cs : List Nat} {n t : Nat} (hn : 1 ≤ n) : ∀ a b, Dm cs n t a → Dm cs n t b → Dm cs n t (Nat.gcd a b) := by
  intro a b
  induction a, b using Nat.gcd.induction with
  | H0 b => intro _ hb; rw [Nat.gcd_zero_left]; exact hb
  | H1 a b _ ih => intro ha hb; rw [Nat.gcd_rec]; exact ih (dm_mod hn hb ha) ha
theorem dm_gl {cs : List Nat} {n t : Nat} (hn : 1 ≤ n) : ∀ (l : List Nat) (d : Nat), Dm cs n t d → (∀ c ∈ l, Dm cs n t c) → Dm cs n t (gl l d) := by
  intro l
  induction l with
  | nil => intro d h _; exact h
  | cons a l ih => intro d h hl; exact ih _ (dm_gcd hn d a h (hl a (by simp))) fun c hc => hl c (by simp [hc])
/-- As many coins as the least one is worth are enough for each remainder. -/
theorem rm_stable (cs : List Nat) (n : Nat) (hn : 1 ≤ n) : ∃ t, t ≤ n ∧ ∀ r, Rm cs n (t + 1) r → Rm cs n t r := by
  have mono : ∀ t r, Rm cs n t r → Rm cs n (t + 1) r := fun t r ⟨s, h1, h2⟩ => ⟨s, .inl h1, h2⟩
  have step : ∀ k, (∃ t, t ≤ k ∧ ∀ r, Rm cs n (t + 1) r → Rm cs n t r) ∨ k + 1 ≤ cnt (Rm cs n k) n := by
    intro k
    induction k with
    | zero => exact .inr (cnt_pos (r := 0) (by omega) ⟨0, rfl, Nat.zero_mod _⟩)
    | succ k ih =>
      rcases ih with ⟨t, h1, h2⟩ | h
      · exact .inl ⟨t, by omega, h2⟩
      · by_cases hs : ∀ r, Rm cs n (k + 1) r → Rm cs n k r
        · exact .inl ⟨k, by omega, hs⟩
        · have ⟨r, hr⟩ := Classical.not_forall.1 hs
          have h3 : Rm cs n (k + 1) r ∧ ¬ Rm cs n k r := Classical.not_imp.1 hr
          have := cnt_more (mono k) (rm_lt hn h3.1) h3.1 h3.2
          exact .inr (by omega)
  rcases step n with h | h
  · exact h
  · have := cnt_le (Rm cs n n) n; omega
theorem rm_all {cs : List Nat} {n : Nat} (hn : 1 ≤ n) (hg : gl cs 0 = 1) : ∃ t, t ≤ n ∧ ∀ r, r < n → Rm cs n t r := by
  obtain ⟨t, ht, hst⟩ := rm_stable cs n hn
  refine ⟨t, ht, ?_⟩
  have hD : ∀ c ∈ cs, Dm cs n t c := by
    intro c hc r ⟨s, h1, h2⟩
    refine hst _ ⟨s + c, .inr ⟨c, hc, s, h1, rfl⟩, ?_⟩
    rw [← h2, Nat.mod_add_mod]
  have h1 := dm_gl hn cs 0 (dm_zero hn) hD
  rw [hg] at h1
  intro r
  induction r with
  | zero => intro _; exact ⟨0, rs_zero cs t, Nat.zero_mod _⟩
  | succ r ih =>
    intro hr
    have := h1 r (ih (by omega))
    rw [Nat.mod_eq_of_lt hr] at this
    exact this
/-- All amounts from the product on have change. -/
theorem fo_far {cs : List Nat} (h : Cn cs) (hg : gl cs 0 = 1) {a : Nat} (ha : cs.getD 0 0 * lastC cs ≤ a) (hb : a < big) : fo cs a < big := by
  have h0 := h.bd 0 (by have := h.one; omega)
  have hm := at_mem (cs := cs) (j := 0) (by have := h.one; omega)
  obtain ⟨t, ht, hall⟩ := rm_all (cs := cs) (n := cs.getD 0 0) h0.1 hg
  obtain ⟨n, en⟩ : ∃ n, cs.getD 0 0 = n := ⟨_, rfl⟩
  rw [en] at h0 ht hall ha hm
  obtain ⟨s, hs, hr⟩ := hall (a % n) (Nat.mod_lt _ (by omega))
  have hsl := rs_le h.le_last t s hs
  have h1 : t * lastC cs ≤ n * lastC cs := Nat.mul_le_mul_right _ ht
  have hsa : s ≤ a := by omega
  have e : a = (a - s) / n * n + s := by
    have h2 : (a - s) % n = 0 := by
      have h3 := Nat.sub_mod_eq_zero_of_mod_eq hr.symm
      exact h3
    have := Nat.div_add_mod (a - s) n
    rw [h2, Nat.mul_comm] at this
    omega
  have hf := rs_fo h.pos t s hs
  have h4 := fo_many h.pos hm ((a - s) / n) s
  rw [← e] at h4
  have h5 : (a - s) / n ≤ a - s := Nat.div_le_self _ _
  have h6 : t ≤ 1000 := by omega
  by_cases hlt : fo cs s + (a - s) / n < big
  · omega
  · exfalso
    by_cases hn1 : s = 0
    · subst hn1
      rw [fo_zero h.pos] at hlt
      omega
    · have hfs := fo_le h.pos s (by unfold big; omega)
      unfold big at *
      omega

/-- The amounts without change below n. -/
noncomputable def unT (cs : List Nat) (n : Nat) : List Nat := (List.range n).filter (fun a => decide (fo cs a = big))
theorem unT_succ (cs : List Nat) (n : Nat) : unT cs (n + 1) = unT cs n ++ if fo cs n = big then [n] else [] := by
  unfold unT
  rw [List.range_succ, List.filter_append]
  by_cases h : fo cs n = big <;> simp [h]
theorem unT_len (cs : List Nat) (n : Nat) : (unT cs n).length ≤ n := by
  unfold unT
  have := List.length_filter_le (fun a => decide (fo cs a = big)) (List.range n)
  simpa using this
theorem unT_more {cs : List Nat} {n : Nat} (h : ∀ a, n ≤ a → a < big → fo cs a ≠ big) : ∀ d, n + d ≤ big → unT cs (n + d) = unT cs n := by
  intro d
  induction d with
  | zero => intro _; rfl
  | succ d ih =>
    intro hd
    rw [show n + (d + 1) = n + d + 1 by omega, unT_succ, ih (by omega), if_neg (h (n + d) (by omega) (by omega)), List.append_nil]
def lastU (l : List Nat) : Int := match l.getLast? with | some a => (a : Int) | none => -1
theorem lastU_snoc (l : List Nat) (a : Nat) : lastU (l ++ [a]) = a := by simp [lastU]
theorem lastU_nil : lastU [] = -1 := rfl
end Go.Proofs.Ytdgadabfahmdmaa
