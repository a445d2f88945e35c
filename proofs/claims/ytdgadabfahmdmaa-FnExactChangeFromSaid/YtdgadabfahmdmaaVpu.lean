/-
  Coins, plainly: the fewest for each amount, how many ways there are, greedy change and where it fails. No condition; no program is spoken of here.
-/
namespace Go.Proofs.Ytdgadabfahmdmaa

/-- A pass over all amounts by one kind: what was told of an amount and what is told now of what one coin leaves. -/
def pass {β : Type} (c : Nat) (s : Nat → β → β → β) (f : Nat → β) (a : Nat) : β :=
  if _h : 1 ≤ c ∧ c ≤ a then s a (f a) (pass c s f (a - c)) else f a
termination_by a
decreasing_by omega
theorem pass_low {β : Type} {c : Nat} {s : Nat → β → β → β} {f : Nat → β} {a : Nat} (h : a < c) : pass c s f a = f a := by
  rw [pass, dif_neg (by omega)]
theorem pass_high {β : Type} {c : Nat} {s : Nat → β → β → β} {f : Nat → β} {a : Nat} (h1 : 1 ≤ c) (h : c ≤ a) : pass c s f a = s a (f a) (pass c s f (a - c)) := by
  rw [pass, dif_pos ⟨h1, h⟩]
theorem pass_rel {β γ : Type} {c : Nat} {s : Nat → β → β → β} {t : Nat → γ → γ → γ} {f : Nat → β} {g : Nat → γ} (R : Nat → β → γ → Prop) (h1 : 1 ≤ c)
    (hs : ∀ a x y x' y', c ≤ a → R a x x' → R (a - c) y y' → R a (s a x y) (t a x' y')) : ∀ a, (∀ j, j ≤ a → R j (f j) (g j)) → R a (pass c s f a) (pass c t g a) := by
  intro a
  induction a using Nat.strongRecOn with
  | ind a ih =>
    intro h0
    by_cases h : c ≤ a
    · rw [pass_high h1 h, pass_high h1 h]
      exact hs a _ _ _ _ h (h0 a (Nat.le_refl _)) (ih (a - c) (by omega) fun j hj => h0 j (by omega))
    · rw [pass_low (by omega), pass_low (by omega)]; exact h0 a (Nat.le_refl _)

/-- The fewest coins; big where there is no change. -/
def big : Nat := 1000000000
def fo : List Nat → Nat → Nat
  | [] => fun a => if a = 0 then 0 else big
  | c :: cs => pass c (fun _ x y => min x (y + 1)) (fo cs)
theorem fo_nil (a : Nat) : fo [] a = if a = 0 then 0 else big := rfl
theorem fo_low {c : Nat} {cs : List Nat} {a : Nat} (h : a < c) : fo (c :: cs) a = fo cs a := pass_low h
theorem fo_high {c : Nat} {cs : List Nat} {a : Nat} (h1 : 1 ≤ c) (h : c ≤ a) : fo (c :: cs) a = min (fo cs a) (fo (c :: cs) (a - c) + 1) := pass_high h1 h
def Pos (cs : List Nat) : Prop := ∀ c ∈ cs, 1 ≤ c
theorem Pos.tail {c : Nat} {cs : List Nat} (h : Pos (c :: cs)) : Pos cs := fun x hx => h x (by simp [hx])
theorem Pos.head {c : Nat} {cs : List Nat} (h : Pos (c :: cs)) : 1 ≤ c := h c (by simp)
theorem fo_mono {c : Nat} {cs : List Nat} (h1 : 1 ≤ c) (a : Nat) : fo (c :: cs) a ≤ fo cs a := by
  by_cases h : c ≤ a
  · rw [fo_high h1 h]; omega
  · rw [fo_low (by omega)]; exact Nat.le_refl _
theorem fo_zero {cs : List Nat} (hp : Pos cs) : fo cs 0 = 0 := by
  induction cs with
  | nil => rfl
  | cons c cs ih => rw [fo_low (by have := hp.head; omega)]; exact ih hp.tail
theorem fo_big {cs : List Nat} (hp : Pos cs) (a : Nat) : fo cs a ≤ big := by
  induction cs with
  | nil => rw [fo_nil]; split <;> simp [big]
  | cons c cs ih => exact Nat.le_trans (fo_mono hp.head a) (ih hp.tail)
/-- One coin more. -/
theorem fo_add {cs : List Nat} (hp : Pos cs) : ∀ (n : Nat), n ∈ cs → ∀ a, n ≤ a → fo cs a ≤ fo cs (a - n) + 1 := by
  induction cs with
  | nil => intro n hn; cases hn
  | cons c cs ih =>
    intro n hn a
    have h1 := hp.head
    induction a using Nat.strongRecOn with
    | ind a iha =>
      intro hna
      by_cases e : n = c
      · subst e; rw [fo_high h1 hna]; omega
      · have hn2 : n ∈ cs := by simp [e] at hn; exact hn
        have h2 := ih hp.tail n hn2 a hna
        by_cases h : c ≤ a
        · rw [fo_high h1 h]
          by_cases h3 : c ≤ a - n
          · rw [fo_high (a := a - n) h1 h3]
            have h4 := iha (a - c) (by omega) (by omega)
            have e2 : a - c - n = a - n - c := by omega
            rw [e2] at h4
            omega
          · rw [fo_low (a := a - n) (by omega)]; omega
        · rw [fo_low (by omega), fo_low (by omega)]; exact h2
/-- The last coin. -/
theorem fo_last {cs : List Nat} (hp : Pos cs) : ∀ a, 0 < a → fo cs a < big → ∃ n ∈ cs, n ≤ a ∧ fo cs a = fo cs (a - n) + 1 := by
  induction cs with
  | nil => intro a ha h; rw [fo_nil, if_neg (by omega)] at h; omega
  | cons c cs ih =>
    intro a ha h
    have h1 := hp.head
    have low : fo (c :: cs) a = fo cs a → ∃ n ∈ c :: cs, n ≤ a ∧ fo (c :: cs) a = fo (c :: cs) (a - n) + 1 := by
      intro e
      obtain ⟨n, hn, hna, e2⟩ := ih hp.tail a ha (by omega)
      have h3 := fo_add hp n (by simp [hn]) a hna
      have h4 := fo_mono (cs := cs) h1 (a - n)
      exact ⟨n, by simp [hn], hna, by omega⟩
    by_cases hc : c ≤ a
    · have e := fo_high (cs := cs) h1 hc
      by_cases h5 : fo cs a ≤ fo (c :: cs) (a - c) + 1
      · exact low (by omega)
      · exact ⟨c, by simp, hc, by omega⟩
    · exact low (fo_low (by omega))
theorem fo_le {cs : List Nat} (hp : Pos cs) : ∀ a, fo cs a < big → fo cs a ≤ a := by
  intro a
  induction a using Nat.strongRecOn with
  | ind a ih =>
    intro h
    by_cases h0 : a = 0
    · subst h0; rw [fo_zero hp]; exact Nat.le_refl _
    · obtain ⟨n, hn, hna, e⟩ := fo_last hp a (by omega) h
      have := hp n hn
      have := ih (a - n) (by omega) (by omega)
      omega
/-- Where change is told by how many of each kind. -/
def dot : List Nat → List Nat → Nat
  | m :: ms, c :: cs => m * c + dot ms cs
  | _, _ => 0
def tot : List Nat → Nat
  | [] => 0
  | m :: ms => m + tot ms
theorem fo_many {cs : List Nat} (hp : Pos cs) {n : Nat} (hn : n ∈ cs) : ∀ (m a : Nat), fo cs (m * n + a) ≤ fo cs a + m := by
  intro m
  induction m with
  | zero => intro a; simp
  | succ m ih =>
    intro a
    have h1 := fo_add hp n hn ((m + 1) * n + a) (by rw [Nat.add_mul]; omega)
    have e : (m + 1) * n + a - n = m * n + a := by rw [Nat.add_mul]; omega
    rw [e] at h1
    have := ih a
    omega
theorem fo_dot : ∀ {cs : List Nat}, Pos cs → ∀ ms : List Nat, fo cs (dot ms cs) ≤ tot ms := by
  intro cs
  induction cs with
  | nil => intro _ ms; cases ms <;> simp [dot, fo_nil]
  | cons c cs ih =>
    intro hp ms
    cases ms with
    | nil => simp [dot, fo_zero hp]
    | cons m ms =>
      have h1 := fo_many hp (n := c) (by simp) m (dot ms cs)
      have h2 := fo_mono (cs := cs) hp.head (dot ms cs)
      have h3 := ih hp.tail ms
      simp only [dot, tot]
      omega

/-- Greedy change, and what it leaves. -/
def gr : List Nat → Nat → List Nat × Nat
  | [], a => ([], a)
  | c :: cs, a => ((gr cs a).2 / c :: (gr cs a).1, (gr cs a).2 % c)
theorem gr_len (cs : List Nat) (a : Nat) : (gr cs a).1.length = cs.length := by
  induction cs with
  | nil => rfl
  | cons c cs ih => simp [gr, ih]
theorem gr_dot (cs : List Nat) (a : Nat) : dot (gr cs a).1 cs + (gr cs a).2 = a := by
  induction cs with
  | nil => simp [gr, dot]
  | cons c cs ih =>
    simp only [gr, dot]
    have h := Nat.div_add_mod (gr cs a).2 c
    have e : (gr cs a).2 / c * c = c * ((gr cs a).2 / c) := Nat.mul_comm _ _
    rw [e]
    omega
theorem gr_le (cs : List Nat) (a : Nat) : (gr cs a).2 ≤ a := by have := gr_dot cs a; omega
def lastC : List Nat → Nat
  | [] => 0
  | [c] => c
  | _ :: c :: cs => lastC (c :: cs)
theorem lastC_mem {c : Nat} {cs : List Nat} : lastC (c :: cs) ∈ c :: cs := by
  induction cs generalizing c with
  | nil => simp [lastC]
  | cons d cs ih => have := ih (c := d); simp only [lastC]; exact List.mem_cons_of_mem _ this
/-- The greatest coin is taken first. -/
theorem gr_last {cs : List Nat} (hp : Pos cs) (hne : cs ≠ []) : ∀ a, lastC cs ≤ a → (gr cs a).2 = (gr cs (a - lastC cs)).2 ∧ tot (gr cs a).1 = tot (gr cs (a - lastC cs)).1 + 1 := by
  intro a
  induction cs with
  | nil => exact (hne rfl).elim
  | cons c cs ih =>
    intro h
    cases cs with
    | nil =>
      simp only [lastC] at h ⊢
      have h1 := hp.head
      simp only [gr, tot]
      have e1 : a = (a - c) + c := by omega
      have e2 : a / c = (a - c) / c + 1 := by
        have := Nat.add_div_right (a - c) (z := c) (by omega)
        rw [← e1] at this; exact this
      have e3 : a % c = (a - c) % c := by
        have := Nat.add_mod_right (a - c) c
        rw [← e1] at this; exact this
      exact ⟨e3, by omega⟩
    | cons d cs =>
      obtain ⟨h1, h2⟩ := ih hp.tail (by simp) (by simpa [lastC] using h)
      simp only [lastC] at h1 h2 ⊢
      constructor
      · show (gr (d :: cs) a).2 % c = (gr (d :: cs) (a - lastC (d :: cs))).2 % c
        rw [h1]
      · show (gr (d :: cs) a).2 / c + tot (gr (d :: cs) a).1 = (gr (d :: cs) (a - lastC (d :: cs))).2 / c + tot (gr (d :: cs) (a - lastC (d :: cs))).1 + 1
        rw [h1]; omega
/-- Greedy change fails though there is change. -/
def Fails (cs : List Nat) (a : Nat) : Prop := fo cs a < big ∧ ((gr cs a).2 ≠ 0 ∨ fo cs a < tot (gr cs a).1)
instance (cs : List Nat) (a : Nat) : Decidable (Fails cs a) := inferInstanceAs (Decidable (_ ∧ _))
theorem fails_no {cs : List Nat} (hp : Pos cs) {a : Nat} (h : fo cs a < big) (hn : ¬ Fails cs a) : (gr cs a).2 = 0 ∧ tot (gr cs a).1 = fo cs a := by
  have h1 : (gr cs a).2 = 0 := Classical.byContradiction fun e => hn ⟨h, .inl e⟩
  have h2 : ¬ fo cs a < tot (gr cs a).1 := fun e => hn ⟨h, .inr e⟩
  have h3 := gr_dot cs a
  rw [h1] at h3
  have h4 := fo_dot hp (gr cs a).1
  have e : dot (gr cs a).1 cs = a := by omega
  rw [e] at h4
  exact ⟨h1, by omega⟩
/-- The first amount for which it fails is less than twice the greatest coin. -/
theorem fails_first {cs : List Nat} (hp : Pos cs) (hne : cs ≠ []) (hle : ∀ n ∈ cs, n ≤ lastC cs) {a : Nat} (ha : 2 * lastC cs ≤ a) (hm : ∀ b, b < a → ¬ Fails cs b) : ¬ Fails cs a := by
  intro hf
  have hl : lastC cs ∈ cs := by cases cs with
    | nil => exact (hne rfl).elim
    | cons c cs => exact lastC_mem
  have hl1 := hp _ hl
  obtain ⟨c, hc, hca, e⟩ := fo_last hp a (by omega) hf.1
  have hcl := hle c hc
  have hc1 := hp c hc
  have f1 : fo cs (a - c) < big := by have := hf.1; omega
  obtain ⟨g1, g2⟩ := fails_no hp f1 (hm (a - c) (by omega))
  obtain ⟨k1, k2⟩ := gr_last hp hne (a - c) (by omega)
  have d1 := gr_dot cs (a - c - lastC cs)
  rw [← k1, g1] at d1
  have d2 := fo_dot hp (gr cs (a - c - lastC cs)).1
  have d3 : dot (gr cs (a - c - lastC cs)).1 cs = a - c - lastC cs := by omega
  rw [d3] at d2
  have f2 := fo_add hp c hc (a - lastC cs) (by omega)
  have e2 : a - lastC cs - c = a - c - lastC cs := by omega
  rw [e2] at f2
  have f3 : fo cs (a - lastC cs) < big := by have := hf.1; omega
  obtain ⟨m1, m2⟩ := fails_no hp f3 (hm (a - lastC cs) (by omega))
  obtain ⟨q1, q2⟩ := gr_last hp hne a (by omega)
  rcases hf.2 with h | h
  · exact h (by rw [q1, m1])
  · omega
theorem fails_none {cs : List Nat} (hp : Pos cs) (hne : cs ≠ []) (hle : ∀ n ∈ cs, n ≤ lastC cs) (h : ∀ a, a < 2 * lastC cs → ¬ Fails cs a) : ∀ a, ¬ Fails cs a := by
  intro a
  induction a using Nat.strongRecOn with
  | ind a ih =>
    by_cases ha : a < 2 * lastC cs
    · exact h a ha
    · exact fails_first hp hne hle (by omega) ih
/-- One kind alone never fails. -/
theorem fails_one {c : Nat} (h1 : 1 ≤ c) : ∀ a, ¬ Fails [c] a := by
  intro a
  induction a using Nat.strongRecOn with
  | ind a ih =>
    intro hf
    have hp : Pos [c] := fun n hn => by simp at hn; omega
    by_cases h : c ≤ a
    · obtain ⟨q1, q2⟩ := gr_last hp (by simp) a h
      simp only [lastC] at q1 q2
      have e := fo_high (cs := []) h1 h
      rw [fo_nil, if_neg (by omega)] at e
      have f1 := hf.1
      obtain ⟨m1, m2⟩ := fails_no hp (by omega) (ih (a - c) (by omega))
      rcases hf.2 with h | h
      · exact h (by rw [q1, m1])
      · omega
    · have f1 := hf.1
      rw [fo_low (by omega), fo_nil] at f1
      by_cases e : a = 0
      · subst e
        have f2 := hf.2
        rw [fo_zero hp] at f2
        simp [gr, tot] at f2
      · rw [if_neg e] at f1; omega

/-- How many ways there are. -/
def wy : List Nat → Nat → Nat
  | [] => fun a => if a = 0 then 1 else 0
  | c :: cs => pass c (fun _ x y => x + y) (wy cs)
theorem pass_comm {c d : Nat} (hc : 1 ≤ c) (hd : 1 ≤ d) (f : Nat → Nat) : ∀ a, pass c (fun _ x y => x + y) (pass d (fun _ x y => x + y) f) a = pass d (fun _ x y => x + y) (pass c (fun _ x y => x + y) f) a := by
  intro a
  induction a using Nat.strongRecOn with
  | ind a ih =>
    by_cases h1 : c ≤ a
    · rw [pass_high hc h1]
      by_cases h2 : d ≤ a
      · rw [pass_high (f := f) hd h2, pass_high (c := d) (f := pass c (fun _ x y => x + y) f) hd h2, pass_high (f := f) hc h1, ih (a - c) (by omega), ← ih (a - d) (by omega)]
        by_cases h3 : c + d ≤ a
        · rw [pass_high (c := d) (f := pass c (fun _ x y => x + y) f) hd (by omega), pass_high (c := c) (f := pass d (fun _ x y => x + y) f) hc (by omega)]
          have e : a - c - d = a - d - c := by omega
          rw [e, ih (a - d - c) (by omega)]
          omega
        · rw [pass_low (c := d) (f := pass c (fun _ x y => x + y) f) (by omega), pass_low (c := c) (f := pass d (fun _ x y => x + y) f) (by omega)]
          omega
      · rw [pass_low (f := f) (by omega), pass_low (c := d) (f := pass c (fun _ x y => x + y) f) (by omega), pass_high (f := f) hc h1, ih (a - c) (by omega), pass_low (c := d) (by omega)]
    · rw [pass_low (by omega)]
      by_cases h2 : d ≤ a
      · rw [pass_high hd h2, pass_high (c := d) (f := pass c (fun _ x y => x + y) f) hd h2, pass_low (c := c) (by omega), ← ih (a - d) (by omega), pass_low (c := c) (by omega)]
      · rw [pass_low (by omega), pass_low (by omega), pass_low (by omega)]
theorem wy_foldl : ∀ (cs : List Nat), Pos cs → ∀ f : Nat → Nat, cs.foldl (fun f c => pass c (fun _ x y => x + y) f) f = cs.foldr (fun c f => pass c (fun _ x y => x + y) f) f := by
  have swap : ∀ (cs : List Nat) (d : Nat), 1 ≤ d → Pos cs → ∀ f : Nat → Nat, cs.foldr (fun c f => pass c (fun _ x y => x + y) f) (pass d (fun _ x y => x + y) f) = pass d (fun _ x y => x + y) (cs.foldr (fun c f => pass c (fun _ x y => x + y) f) f) := by
    intro cs
    induction cs with
    | nil => intro d _ _ f; rfl
    | cons c cs ih =>
      intro d hd hp f
      simp only [List.foldr_cons]
      rw [ih d hd hp.tail f]
      exact funext fun a => pass_comm hp.head hd _ a
  intro cs
  induction cs with
  | nil => intro _ f; rfl
  | cons c cs ih =>
    intro hp f
    simp only [List.foldl_cons, List.foldr_cons]
    rw [ih hp.tail, swap cs c hp.head hp.tail]
theorem wy_foldr (cs : List Nat) : cs.foldr (fun c f => pass c (fun _ x y => x + y) f) (wy []) = wy cs := by
  induction cs with
  | nil => rfl
  | cons c cs ih => simp only [List.foldr_cons, ih]; rfl
end Go.Proofs.Ytdgadabfahmdmaa
