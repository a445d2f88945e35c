/-
  The model's table of the fewest coins, plainly. No condition; no program is spoken of here.
-/
import Derived.Test.YtdgadabfahmdmaaVpd
namespace Go.Proofs.Ytdgadabfahmdmaa

/-- The fewest coins as the model tells them: -1 where there is no change. -/
def fwI (cs : List Nat) (a : Nat) : Int := if fo cs a < big then (fo cs a : Int) else -1
theorem fwI_yes {cs : List Nat} {a : Nat} (h : fo cs a < big) : fwI cs a = fo cs a := by simp [fwI, h]
theorem fwI_no {cs : List Nat} {a : Nat} (h : ¬ fo cs a < big) : fwI cs a = -1 := by simp [fwI, h]
theorem fwI_neg {cs : List Nat} {a : Nat} : fwI cs a < 0 ↔ ¬ fo cs a < big := by
  by_cases h : fo cs a < big
  · rw [fwI_yes h]; constructor
    · intro g; omega
    · intro g; exact (g h).elim
  · rw [fwI_no h]; exact ⟨fun _ => h, fun _ => by omega⟩
theorem fwI_bd {cs : List Nat} (hp : Pos cs) (a : Nat) : -1 ≤ fwI cs a ∧ fwI cs a ≤ a := by
  by_cases h : fo cs a < big
  · rw [fwI_yes h]; have := fo_le hp a h; omega
  · rw [fwI_no h]; omega
/-- One coin after the other tried as the last one. -/
def fwS (L : Nat → Int) (v : Nat) : List Nat → Int → Int
  | [], a => a
  | n :: t, a => fwS L v t (if n ≤ v ∧ 0 ≤ L (v - n) ∧ (a < 0 ∨ L (v - n) + 1 < a) then L (v - n) + 1 else a)
theorem fwS_snoc (L : Nat → Int) (v : Nat) : ∀ (l : List Nat) (a : Int) (n : Nat), fwS L v (l ++ [n]) a = if n ≤ v ∧ 0 ≤ L (v - n) ∧ (fwS L v l a < 0 ∨ L (v - n) + 1 < fwS L v l a) then L (v - n) + 1 else fwS L v l a := by
  intro l
  induction l with
  | nil => intro a n; rfl
  | cons m t ih => intro a n; rw [List.cons_append, fwS, ih]; rfl
theorem fwS_spec (L : Nat → Int) (v : Nat) : ∀ (l : List Nat) (a : Int), (fwS L v l a = a ∨ ∃ n ∈ l, n ≤ v ∧ 0 ≤ L (v - n) ∧ fwS L v l a = L (v - n) + 1) ∧
    (∀ n ∈ l, n ≤ v → 0 ≤ L (v - n) → 0 ≤ fwS L v l a ∧ fwS L v l a ≤ L (v - n) + 1) ∧ (0 ≤ a → 0 ≤ fwS L v l a ∧ fwS L v l a ≤ a) := by
  intro l
  induction l with
  | nil => intro a; exact ⟨.inl rfl, fun n hn => (by cases hn), fun h => ⟨h, Int.le_refl _⟩⟩
  | cons n t ih =>
    intro a
    simp only [fwS]
    by_cases h : n ≤ v ∧ 0 ≤ L (v - n) ∧ (a < 0 ∨ L (v - n) + 1 < a)
    · rw [if_pos h]
      obtain ⟨h1, h2, h3⟩ := ih (L (v - n) + 1)
      have h4 := h3 (by omega)
      refine ⟨.inr ?_, fun m hm hmv hL => ?_, fun ha => by omega⟩
      · rcases h1 with h1 | ⟨m, hm, r⟩
        · exact ⟨n, by simp, h.1, h.2.1, h1⟩
        · exact ⟨m, by simp [hm], r⟩
      · rcases List.mem_cons.1 hm with rfl | hm
        · exact h4
        · exact h2 m hm hmv hL
    · rw [if_neg h]
      obtain ⟨h1, h2, h3⟩ := ih a
      refine ⟨?_, fun m hm hmv hL => ?_, h3⟩
      · rcases h1 with h1 | ⟨m, hm, r⟩
        · exact .inl h1
        · exact .inr ⟨m, by simp [hm], r⟩
      · rcases List.mem_cons.1 hm with rfl | hm
        · have : ¬ (a < 0 ∨ L (v - m) + 1 < a) := fun g => h ⟨hmv, hL, g⟩
          have := h3 (by omega)
          omega
        · exact h2 m hm hmv hL
theorem fwS_all {cs : List Nat} (hp : Pos cs) {v : Nat} (hv : 0 < v) (hb : v < big) : fwS (fwI cs) v cs (-1) = fwI cs v := by
  obtain ⟨h1, h2, _⟩ := fwS_spec (fwI cs) v cs (-1)
  by_cases h : fo cs v < big
  · obtain ⟨n, hn, hnv, e⟩ := fo_last hp v hv h
    have h3 := h2 n hn hnv (by rw [fwI_yes (by omega)]; omega)
    rw [fwI_yes (a := v - n) (by omega)] at h3
    rw [fwI_yes h]
    rcases h1 with h1 | ⟨m, hm, hmv, hL, e2⟩
    · omega
    · have h4 := fo_add hp m hm v hmv
      have h5 : fo cs (v - m) < big := by
        apply Classical.byContradiction
        intro g
        rw [fwI_no g] at hL
        omega
      rw [fwI_yes h5] at e2
      omega
  · rw [fwI_no h]
    rcases h1 with h1 | ⟨m, hm, hmv, hL, e2⟩
    · exact h1
    · exfalso
      have h5 : fo cs (v - m) < big := by
        apply Classical.byContradiction
        intro g
        rw [fwI_no g] at hL
        omega
      have h4 := fo_add hp m hm v hmv
      have h6 := fo_le hp _ h5
      have := hp m hm
      omega
theorem fwS_bd {cs : List Nat} (hp : Pos cs) (v : Nat) (l : List Nat) : -1 ≤ fwS (fwI cs) v l (-1) ∧ fwS (fwI cs) v l (-1) ≤ v + 1 := by
  obtain ⟨h1, _, _⟩ := fwS_spec (fwI cs) v l (-1)
  rcases h1 with h1 | ⟨m, hm, hmv, hL, e2⟩
  · omega
  · have := (fwI_bd hp (v - m)).2
    omega
/-- The table's cell j while amount v is being told, k kinds of which are done. -/
def fwAt (cs : List Nat) (v k j : Nat) : Int := if j < v then fwI cs j else if j = v then fwS (fwI cs) v (cs.take k) (-1) else 0
theorem fwAt_low {cs : List Nat} {v k j : Nat} (h : j < v) : fwAt cs v k j = fwI cs j := by simp [fwAt, h]
theorem fwAt_self (cs : List Nat) (v k : Nat) : fwAt cs v k v = fwS (fwI cs) v (cs.take k) (-1) := by simp [fwAt]
theorem take_snocN {cs : List Nat} {k : Nat} (hk : k < cs.length) : cs.take (k + 1) = cs.take k ++ [cs.getD k 0] := by
  rw [List.take_add_one, List.getElem?_eq_getElem hk, List.getD_eq_getElem?_getD, List.getElem?_eq_getElem hk]
  rfl
theorem fwAt_next {cs : List Nat} {v k : Nat} (hk : k < cs.length) : fwS (fwI cs) v (cs.take (k + 1)) (-1) = if cs.getD k 0 ≤ v ∧ 0 ≤ fwI cs (v - cs.getD k 0) ∧ (fwS (fwI cs) v (cs.take k) (-1) < 0 ∨ fwI cs (v - cs.getD k 0) + 1 < fwS (fwI cs) v (cs.take k) (-1)) then fwI cs (v - cs.getD k 0) + 1 else fwS (fwI cs) v (cs.take k) (-1) := by
  rw [take_snocN hk, fwS_snoc]
def fewT (cs : List Nat) (m : Nat) : List Int := (List.range (m + 1)).map (fwI cs)
theorem fewT_len (cs : List Nat) (m : Nat) : (fewT cs m).length = m + 1 := by simp [fewT]
theorem fewT_at (cs : List Nat) (m j : Nat) (h : j < m + 1) : (fewT cs m).getD j 0 = fwI cs j := by simp [fewT, List.getD, h]
theorem fwI_zero {cs : List Nat} (hp : Pos cs) : fwI cs 0 = 0 := by rw [fwI_yes (by rw [fo_zero hp]; decide), fo_zero hp]; rfl
end Go.Proofs.Ytdgadabfahmdmaa
